/- The program's Edges and Parts. No condition. -/
import Derived.Test.YteaicmjihckbjaaEdges
import Derived.Test.YteaicmjihckbjaaParts
