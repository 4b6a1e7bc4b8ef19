/- Layer 13: the program's contracts, together. -/
import Derived.Test.YtomfeehebkknoaaScPj
import Derived.Test.YtomfeehebkknoaaScPk
