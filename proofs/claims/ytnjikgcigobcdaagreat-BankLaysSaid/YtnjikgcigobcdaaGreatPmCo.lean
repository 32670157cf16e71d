import Derived.Test.YtnjikgcigobcdaaGreatMB
import Derived.Lib.SliceRun
namespace Go.Proofs.YtnjikgcigobcdaaGreat
open Wd Pm Go.Maps Go.RowKit Go.Shelf
set_option linter.unusedVariables false
