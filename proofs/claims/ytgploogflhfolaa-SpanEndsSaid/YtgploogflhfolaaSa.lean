/- slices.SortFunc at parts, laid off the shelf. -/
import Derived.Shelf.SlSortCmp.WholeK
import Derived.Shelf.Lay
import Derived.Ground.SlsfProg
import Derived.Test.YtgploogflhfolaaWc
namespace Go.Proofs.Ytgploogflhfolaa
open Go Go.Proofs Go.Shelf Go.RowKit Go.Lib Go.Sort
shelf_lay_g SlLaysF0.n6 Slsf 6 at Try 43 as Try.sortP
end Go.Proofs.Ytgploogflhfolaa
