/- The program's store keeps all that StoreQuota asks of it. -/
import Derived.Test.YtbobdbdknapdcaaSoKit
import Derived.Test.YtbobdbdknapdcaaSoPu2
import Derived.Test.YtbobdbdknapdcaaSoGet
namespace Go.Proofs.Ytbobdbdknapdcaa
open Go.RowKit
set_option linter.unusedVariables false

def theStore : StoreKit where
  Rep := StoW
  keep := fun h hb => h.keep hb
  open_ := fun n mid h hw h1 h2 h3 => s_OpenNew n mid h hw h1 h2 h3
  put_new := fun h hw s hs hn hl hr => s_put_new h hw s hs hn hl hr
  put_old := fun h hw s hs hn => s_put_old h hw s hs hn
  put_full := fun h hw s hs hn hl => s_put_full h hw s hs hn hl
  get_some := fun h hw s hs => s_get_some h hw s hs
  get_none := fun h hw l h32 ho hn => s_get_none h hw l h32 ho hn
  all := fun h hw => s_all h hw
  room := fun h hw => s_room h hw
end Go.Proofs.Ytbobdbdknapdcaa
