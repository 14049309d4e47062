/-
  The program's paths: all contracts.
-/
import Derived.Test.YtkkklpchkkdhfaaVd
import Derived.Test.YtkkklpchkkdhfaaVf
