/- The listed tables are never read on the roads that these laws take: nothing is asked of them. -/
import Derived.Test.YtipepbnmllbonaaDoorBase
import Derived.LaidMore
namespace Go.Proofs.YtipepbnmllbonaaDoor
open Go.RowKit
def Tabs4 (_ : World) : Prop := True
theorem tabs_of4 {l : List (String × DataW Unit)} {W : World} (_ : laidMetH Tryd.prog l W) : Tabs4 W := trivial
end Go.Proofs.YtipepbnmllbonaaDoor
