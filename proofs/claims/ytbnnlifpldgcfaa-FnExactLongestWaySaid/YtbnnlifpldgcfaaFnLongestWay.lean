/- LongestWay, both: the program's and the model's. -/
import Derived.Test.YtbnnlifpldgcfaaLongIm
import Derived.Test.YtbnnlifpldgcfaaLongSp
