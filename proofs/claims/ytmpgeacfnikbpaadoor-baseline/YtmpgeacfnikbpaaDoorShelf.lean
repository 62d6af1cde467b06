/-
  The library's contracts at this program, those of texts.
-/
import Derived.Test.YtmpgeacfnikbpaaDoorShelfT
