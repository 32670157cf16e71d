import Derived.Test.YtcimmfhbffofjaaWoCl
namespace Go.Proofs.Ytcimmfhbffofjaa
open Wd U Go.ChangeShapes Go.WideShapes Go.RowKit Go.Sort
set_option linter.unusedVariables false