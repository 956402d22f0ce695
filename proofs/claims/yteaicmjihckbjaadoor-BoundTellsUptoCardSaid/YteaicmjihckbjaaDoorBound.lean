/- The program's Edges and Parts. No condition. -/
import Derived.Test.YteaicmjihckbjaaDoorEdges
import Derived.Test.YteaicmjihckbjaaDoorParts
