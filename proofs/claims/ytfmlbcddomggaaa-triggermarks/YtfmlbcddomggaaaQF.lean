/- The program's Behind, OnTime, Tell, Event answer as the document asks. -/
import Derived.Test.YtfmlbcddomggaaaQDn
import Derived.Test.YtfmlbcddomggaaaQE
import Derived.Test.YtfmlbcddomggaaaVK
namespace Go.Proofs.Ytfmlbcddomggaaa
open Go.RowKit

theorem behC : BehC := fun c x m w => behind_any c x m w
theorem onC : OnC := fun x f t w => ontime_any x f t w
theorem tellC' : TellC := fun k x d di hx w => tellC k x d di hx w
theorem evC : EvC := fun c k x v t m hx _ _ _ w => event_any c k x v t m hx.n hx.p w

end Go.Proofs.Ytfmlbcddomggaaa
