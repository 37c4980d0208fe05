/-
  What number of the document's answer (package lumref) answers: see RNum.
-/
import Derived.Test.YtcgecafajgoeeaaDoorLow
import Derived.Test.YtcgecafajgoeeaaDoorRNum
