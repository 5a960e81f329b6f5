import Derived.Test.YtcgocmocceikdabPrf
import Derived.Test.YtcgocmocceikdabFau
namespace Go.Proofs.Ytcgocmocceikdab

theorem refuses_said : Rows.RefusesSaid := refuses_holds faults_any
end Go.Proofs.Ytcgocmocceikdab
