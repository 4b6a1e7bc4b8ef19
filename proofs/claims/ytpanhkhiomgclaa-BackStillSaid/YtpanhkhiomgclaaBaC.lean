/- Layer 14, TRIAL: the program's contracts, gathered. -/
import Derived.Test.YtpanhkhiomgclaaBaF
import Derived.Test.YtpanhkhiomgclaaBaNo
