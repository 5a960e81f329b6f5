import Derived.Test.YtdofpbbahamkkabPrf
import Derived.Test.YtdofpbbahamkkabFau
namespace Go.Proofs.Ytdofpbbahamkkab

theorem refuses_said : Rows.RefusesSaid := refuses_holds faults_any
end Go.Proofs.Ytdofpbbahamkkab
