/- The program's Mark answers as the document asks. -/
import Derived.Test.YtfmlbcddomggaaaQO
import Derived.Test.YtfmlbcddomggaaaQF
import Derived.Test.YtfmlbcddomggaaaVO
namespace Go.Proofs.Ytfmlbcddomggaaa
open Go.RowKit

theorem markC : MarkC := fun c k ao cap L f t w hsl hn hok hlt _ ht => mark_any c k ao cap L f t w hsl hn hok hlt ht

end Go.Proofs.Ytfmlbcddomggaaa
