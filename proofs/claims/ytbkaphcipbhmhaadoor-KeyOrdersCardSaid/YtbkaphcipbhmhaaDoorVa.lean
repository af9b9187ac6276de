/- The chapter's examples hold: the contract of the statements' own 'alive'. -/
import Derived.Test.YtbkaphcipbhmhaaDoorVk
import Derived.Laws.IdiomStrings
namespace Go.Proofs.YtbkaphcipbhmhaaDoor.Va
open Go Go.RowKit Go.Proofs.YtbkaphcipbhmhaaDoor.Vm Go.Proofs.YtbkaphcipbhmhaaDoor.Vl Go.Proofs.YtbkaphcipbhmhaaDoor.Ve Go.Proofs.YtbkaphcipbhmhaaDoor.Vr Go.Proofs.YtbkaphcipbhmhaaDoor.Vs Go.Proofs.YtbkaphcipbhmhaaDoor.Vc Go.Proofs.YtbkaphcipbhmhaaDoor.Vk
end Go.Proofs.YtbkaphcipbhmhaaDoor.Va
