/-
  The library's contracts at this program, those of texts and those of lists.
-/
import Derived.Test.YtakbeololabmhaaGreatDoorShelfL
import Derived.Test.YtakbeololabmhaaGreatDoorShelfT
