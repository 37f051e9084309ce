/-
  The library's contracts that the walks lean on, laid at this program's own numbers: strings.Builder's Grow, WriteString and String, and utf8.DecodeRuneInString; each is one application of a theorem of the library.
-/
import Derived.Shelf.Strings.Builder2
import Derived.Shelf.Strings.BuilderK
import Derived.Shelf.Unicode.DecodeAny
import Derived.Test.YtbhmepedegbgjaaProg
namespace Go.Proofs.Ytbhmepedegbgjaa
open Go.Shelf
end Go.Proofs.Ytbhmepedegbgjaa
