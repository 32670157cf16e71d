import Derived.Test.YtanjikflljdjcaaDoorWd
namespace Wd
open Go Go.RowKit
/-- a law's end: it answers true, and nothing that was there has turned -/
def TrueB (w : World) (e : Ending) (w' : World) : Prop := e = .returned (.bool true) ∧ Below w.heap.size w w'
end Wd
