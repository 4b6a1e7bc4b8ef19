/- Layer 11: the program's contracts, together. -/
import Derived.Test.YthpnmhllgjibgaaRwPe
import Derived.Test.YthpnmhllgjibgaaRwPf
import Derived.Test.YthpnmhllgjibgaaRwPg
import Derived.Test.YthpnmhllgjibgaaRwPj
