/- The document's ActedOf at every action, and ScriptOf: what they return. Conditions: the actions' numbers are ints. -/
import Derived.Test.YthjaanhkmfiajacRefActs
import Derived.Test.YthjaanhkmfiajacRefActPut
import Derived.Test.YthjaanhkmfiajacRefActRead
import Derived.Test.YthjaanhkmfiajacRefActCommit
import Derived.Test.YthjaanhkmfiajacRefActCrash
import Derived.Test.YthjaanhkmfiajacRefVols
namespace Go.Proofs.Ythjaanhkmfiajac
open Go.RowKit LM EM

theorem Acted_any (n : Nat) (hv : Value) (s : EM.St) (a : EM.Act) (w : World) (h : HouseV w hv s) (hI : EM.Inv n s) (hok : ActOk a) :
    Calls Try.prog 12 #[hv, .agg #[.int .i64 a.kind, .int .i64 a.block, .string a.data, .int .i64 a.keep]] w (ActedRet s a w) := by
  by_cases k1 : a.kind = 1
  · exact Acted_Begin n hv s a w h hI hok k1
  by_cases k2 : a.kind = 2
  · exact Acted_Put n hv s a w h hI hok k2
  by_cases k3 : a.kind = 3
  · exact Acted_Read n hv s a w h hI hok k3
  by_cases k4 : a.kind = 4
  · exact Acted_Commit n hv s a w h hI hok k4
  by_cases k5 : a.kind = 5
  · exact Acted_Abort n hv s a w h hI hok k5
  by_cases k6 : a.kind = 6
  · exact Acted_Flush n hv s a w h hI hok k6
  by_cases k7 : a.kind = 7
  · exact Acted_Crash n hv s a w h hI hok k7
  by_cases k8 : a.kind = 8
  · exact Acted_Mark n hv s a w h hI hok k8
  by_cases k9 : a.kind = 9
  · exact Acted_Stat n hv s a w h hI hok k9
  exact Acted_Odd n hv s a w h hI hok (by omega)
end Go.Proofs.Ythjaanhkmfiajac
