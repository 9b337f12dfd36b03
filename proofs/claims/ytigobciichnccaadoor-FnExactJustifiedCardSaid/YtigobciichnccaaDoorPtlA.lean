/- The points of a text beside the marks of rows (imports alone). -/
import Derived.Test.YtigobciichnccaaDoorNPointsI
import Derived.Test.YtigobciichnccaaDoorMarksA
namespace Go.Proofs.YtigobciichnccaaDoor
end Go.Proofs.YtigobciichnccaaDoor
