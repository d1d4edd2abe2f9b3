/- copy between rows of items, as a run equation, in a list and as a step of a region that draws; what two writes leave. No condition. -/
import Derived.Test.YtajjhjabehiikabDoorItemsRow
namespace Go.Proofs.YtajjhjabehiikabDoor
open Go.RowKit

theorem over_two {cur : Array Value} {o : Nat} {as bs : List Value} (h : o + as.length + bs.length ≤ cur.size) :
    (over (over cur o as) (o + as.length) bs).toList.take (o + as.length + bs.length) = cur.toList.take o ++ as ++ bs := by
  have h1 : o + as.length ≤ cur.size := by omega
  rw [over_take (by rw [over_size h1]; exact h), over_take h1]
theorem over_shift {cur : Array Value} {o : Nat} {as bs : List Value} (h : o + as.length + bs.length ≤ cur.size) :
    (over (over cur (o + as.length) bs) o as).toList.take (o + as.length + bs.length) = cur.toList.take o ++ as ++ bs := by
  have h1 : o + as.length + bs.length ≤ (over cur (o + as.length) bs).size := by rw [over_size h]; exact h
  have e1 : (over cur (o + as.length) bs).toList.take o = cur.toList.take o := over_before h (by omega)
  have e2 : (over cur (o + as.length) bs).toList.drop (o + as.length) = bs ++ cur.toList.drop (o + as.length + bs.length) := by
    unfold over
    rw [List.toList_toArray, List.append_assoc, List.drop_append_of_le_length (by simp; omega), List.drop_of_length_le (by simp; omega), List.nil_append]
  show ((over cur (o + as.length) bs).toList.take o ++ as ++ (over cur (o + as.length) bs).toList.drop (o + as.length)).take _ = _
  rw [e1, e2, ← List.append_assoc, List.take_append_of_le_length (by simp; omega)]
  exact List.take_of_length_le (by simp; omega)

section
variable {P : Program}

theorem run_copy_items (w : World) (dT sT ty e : TypeId) (i : TypeInfo) (hu : P.underlying dT = some (.slice e)) (hi : P.info? e = some i) (hs : i.size = 3) (g o dLen dCap : Nat) (a : Addr) (sLen sCap : Nat) (cur : Array Value) (hr : RowAt w g e cur)
    (cs : List Value) (q : Nat) (hq : q = Nat.min sLen dLen) (hn : cs.length = q * 3) (hsrc : ∀ j v, cs[j]? = some v → w.cell? (a.add j) = some v) (hfit : o + cs.length ≤ cur.size) (h1 : ∀ v ∈ cs, v.oneCell' = true) :
    (Builtin.copy_ #[dT, sT] ty #[.slice (some ⟨g, o, none⟩) dLen dCap, .slice (some a) sLen sCap]).run P w = .ok (goInt q) (w.setRow g (over cur o cs)) := by
  subst hq
  have hl := run_loadCells_list (P := P) w a cs hsrc
  rw [hn] at hl
  have hst := run_storeCells_at P g o e cs 0 cur w hr (by simpa using hfit) h1
  simp only [Nat.add_zero] at hst
  simp [Builtin.copy_, run_underlying hu, Builtin.lenOf, Builtin.firstCells, sizeOf, typeInfo, hi, hs, hl, hst, over]

theorem wpList_copy_eq (w : World) {ops : Array Oper} {rest : List Oper} {o : Oper} {a : Act} {Q : Exit → Act → World → Prop} (hgd : o.guard = none) (d s : Operand) (dT sT : TypeId)
    (ho : o.op = .call { callee := .builtin .copy, args := #[d, s], argTypes := #[dT, sT] }) (v u : Value) (hd : a.eval d = v) (hs : a.eval s = u) {r : Value} {w' : World}
    (hr : (Builtin.copy_ #[dT, sT] o.type #[v, u]).run P w = .ok r w') (h : wpList P ops Q rest (a.put o.dst r) w') : wpList P ops Q (o :: rest) a w := by
  refine wpList_plain hgd fun K hK => ?_
  unfold Oper.wp
  simp [execOp, ho, resolve, invoke, builtin, hd, hs, hr, Result.andThen]
  exact hK _ _ h

theorem step_copy_eq {ops : Array Oper} {o : Oper} {a : Act} {w : World} {K : Act → World → Prop} {Q : Exit → Act → World → Prop} {E : Prop} (hgd : o.guard = none) (d s : Operand) (dT sT : TypeId)
    (ho : o.op = .call { callee := .builtin .copy, args := #[d, s], argTypes := #[dT, sT] }) (v u : Value) (hd : a.eval d = v) (hs : a.eval s = u) {r : Value} {w' : World}
    (hr : (Builtin.copy_ #[dT, sT] o.type #[v, u]).run P w = .ok r w') (hK : K (a.put o.dst r) w') : if Region.wanted o (yielded ops a.tmps) = true then Oper.wp P o a w K Q else E := by
  have hw : Region.wanted o (yielded ops a.tmps) = true := by simp [Region.wanted, hgd]
  rw [if_pos hw]
  unfold Oper.wp
  simp [execOp, ho, resolve, invoke, builtin, hd, hs, hr, Result.andThen]
  exact hK
end
end Go.Proofs.YtajjhjabehiikabDoor
