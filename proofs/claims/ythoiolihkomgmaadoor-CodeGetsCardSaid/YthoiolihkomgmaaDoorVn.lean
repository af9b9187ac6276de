/- The contract of value.Less. -/
import Derived.Test.YthoiolihkomgmaaDoorVe
import Derived.Below
namespace Go.Proofs.YthoiolihkomgmaaDoor.Vn
open Go Go.RowKit Go.Proofs.YthoiolihkomgmaaDoor.Vm Go.Proofs.YthoiolihkomgmaaDoor.Vl
end Go.Proofs.YthoiolihkomgmaaDoor.Vn
