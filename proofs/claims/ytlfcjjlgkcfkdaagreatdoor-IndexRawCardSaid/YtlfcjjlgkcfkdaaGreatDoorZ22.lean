/-
  What PutText (the program's and the reference's) does, for every text: it returns a new slice with the bytes that the chapter names. Condition at PutText: the text has at most 2^47 - 4096 bytes.
  Plain mathematics of chapter 4: a set's bytes, what bytes are read as, projections. No conditions.
-/
import Derived.Test.YtlfcjjlgkcfkdaaGreatDoorProg
import Derived.Test.YtlfcjjlgkcfkdaaGreatDoorZ01
import Derived.Test.YtlfcjjlgkcfkdaaGreatDoorZ19
import Derived.Test.YtlfcjjlgkcfkdaaGreatDoorZ21
import Derived.Lib.AppendStr
import Derived.Below
import Derived.WalkKit
import Derived.WalkSpells
import Derived.WalkLawsBesides
import Derived.Lib.Hide
import Derived.Laws.BytesArg
import Derived.Laws.AppendOwnNone
import Derived.KernelRfl
import Derived.Lib.Bytealg
import Derived.Deep.RegionHeld3
import Derived.Laws.AppendOwn
import Derived.BigQuiet
import Derived.Laws.StructEq
import Derived.Laws.OwnMore
import Derived.Lib.QuietBelow
import Derived.Laws.Externs
import Derived.Lib.LazyBuf

