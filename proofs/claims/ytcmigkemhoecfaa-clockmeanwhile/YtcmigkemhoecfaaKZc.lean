/- The zero clock of the program: its cells stand here alone. -/
import Derived.Test.YtcmigkemhoecfaaKZ
namespace Go.Proofs.Ytcmigkemhoecfaa
open Go.RowKit

abbrev zC : Array Value := #[.slice none 0 0, .pointer none, .map none]

end Go.Proofs.Ytcmigkemhoecfaa
