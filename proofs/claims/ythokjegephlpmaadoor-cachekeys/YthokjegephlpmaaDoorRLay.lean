/- (For a seat that does not reach the laying in of texts: nothing.) -/
import Derived.Test.YthokjegephlpmaaDoorIRowT
import Derived.Laws.AppendOwnNone
