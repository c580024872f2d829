/- The program's calls on versions: what they come to. -/
import Derived.Test.YtahfjfhiejhddaaHSm
import Derived.Test.YtahfjfhiejhddaaHEnc
import Derived.Test.YtahfjfhiejhddaaHRdy
namespace Go.Proofs.Ytahfjfhiejhddaa
end Go.Proofs.Ytahfjfhiejhddaa
