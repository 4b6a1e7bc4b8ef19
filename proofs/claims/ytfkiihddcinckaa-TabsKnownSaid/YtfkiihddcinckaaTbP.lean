/- Layer 12: the program's contracts, gathered. -/
import Derived.Test.YtfkiihddcinckaaTbPk
