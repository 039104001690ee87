/-
  Values: what the law of LookUp reaches. Conditions: none.
-/
import Derived.Test.YthmfkbnfdheopaaXb
import Derived.Test.YthmfkbnfdheopaaBo
import Derived.Test.YthmfkbnfdheopaaR1e
