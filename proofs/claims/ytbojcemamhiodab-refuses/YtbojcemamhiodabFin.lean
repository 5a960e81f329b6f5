import Derived.Test.YtbojcemamhiodabPrf
import Derived.Test.YtbojcemamhiodabFau
namespace Go.Proofs.Ytbojcemamhiodab

theorem refuses_said : Rows.RefusesSaid := refuses_holds faults_any
end Go.Proofs.Ytbojcemamhiodab
