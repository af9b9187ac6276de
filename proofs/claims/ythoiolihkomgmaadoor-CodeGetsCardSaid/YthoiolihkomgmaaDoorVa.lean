/- The chapter's examples hold: the contract of the statements' own 'alive'. -/
import Derived.Test.YthoiolihkomgmaaDoorVk
import Derived.Laws.IdiomStrings
namespace Go.Proofs.YthoiolihkomgmaaDoor.Va
open Go Go.RowKit Go.Proofs.YthoiolihkomgmaaDoor.Vm Go.Proofs.YthoiolihkomgmaaDoor.Vl Go.Proofs.YthoiolihkomgmaaDoor.Ve Go.Proofs.YthoiolihkomgmaaDoor.Vr Go.Proofs.YthoiolihkomgmaaDoor.Vs Go.Proofs.YthoiolihkomgmaaDoor.Vc Go.Proofs.YthoiolihkomgmaaDoor.Vk
end Go.Proofs.YthoiolihkomgmaaDoor.Va
