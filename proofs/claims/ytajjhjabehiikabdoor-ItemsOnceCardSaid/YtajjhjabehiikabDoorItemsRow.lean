/- A row of items known whole, written by append in place, by clear and by copy: run equations and steps. No condition. -/
import Derived.Test.YtajjhjabehiikabDoorItemsOwn
import Derived.Deep.RegionLaw
import Derived.Laws.CopyRow
import Derived.Laws.CopyOwn
import Derived.Lib.SliceRun
import Derived.Lib.Hide
import Derived.IntWalk
import Derived.WalkKit
namespace Go.Proofs.YtajjhjabehiikabDoor
open Go.RowKit

/-- the row behind a write of cells at a place -/
def over (cur : Array Value) (o : Nat) (cs : List Value) : Array Value := (cur.toList.take o ++ cs ++ cur.toList.drop (o + cs.length)).toArray
theorem over_size {cur : Array Value} {o : Nat} {cs : List Value} (h : o + cs.length ≤ cur.size) : (over cur o cs).size = cur.size := by
  simp [over]; omega
theorem over_take {cur : Array Value} {o : Nat} {cs : List Value} (h : o + cs.length ≤ cur.size) : (over cur o cs).toList.take (o + cs.length) = cur.toList.take o ++ cs := by
  unfold over
  rw [List.toList_toArray, List.take_append_of_le_length (by simp; omega)]
  exact List.take_of_length_le (by simp; omega)
theorem over_before {cur : Array Value} {o m : Nat} {cs : List Value} (h : o + cs.length ≤ cur.size) (hm : m ≤ o) : (over cur o cs).toList.take m = cur.toList.take m := by
  unfold over
  rw [List.toList_toArray, List.append_assoc, List.take_append_of_le_length (by simp; omega), List.take_take, Nat.min_eq_left hm]
theorem over_get {cur : Array Value} {o j : Nat} {cs : List Value} (h : o + cs.length ≤ cur.size) : (over cur o cs)[j]? = if j < o then cur[j]? else if j < o + cs.length then cs[j - o]? else cur[j]? := by
  unfold over
  rw [List.getElem?_toArray]
  by_cases h1 : j < o
  · rw [if_pos h1, List.append_assoc, List.getElem?_append_left (by simp; omega), List.getElem?_take_of_lt h1]; simp
  · rw [if_neg h1]
    by_cases h2 : j < o + cs.length
    · rw [if_pos h2, List.append_assoc, List.getElem?_append_right (by simp; omega), List.getElem?_append_left (by simp; omega)]
      congr 1; simp; omega
    · rw [if_neg h2, List.getElem?_append_right (by simp; omega), List.getElem?_drop]
      simp only [List.length_append, List.length_take, Array.length_toList]
      rw [Array.getElem?_toList]
      congr 1; omega

/-- block g of w is the row cur -/
def RowAt (w : World) (g : Nat) (e : TypeId) (cur : Array Value) : Prop := w.heap[g]? = some (.cells cur e (0, 0))
theorem RowAt.cell {w : World} {g : Nat} {e : TypeId} {cur : Array Value} (h : RowAt w g e cur) (j : Nat) : w.cell? ⟨g, j, none⟩ = cur[j]? := cell_of_row w g j cur e (0, 0) h
theorem RowAt.set {w : World} {g : Nat} {e : TypeId} {cur cs : Array Value} (h : RowAt w g e cur) : RowAt (w.setRow g cs) g e cs := setRow_heap w g cur cs e _ h
theorem RowAt.lt {w : World} {g : Nat} {e : TypeId} {cur : Array Value} (h : RowAt w g e cur) : g < w.heap.size := (Array.getElem?_eq_some_iff.1 h).1
theorem RowAt.drew {w : World} {g : Nat} {e : TypeId} {cur : Array Value} (h : RowAt w g e cur) : RowAt w.drew g e cur := h
theorem RowAt.past {w w' : World} {g : Nat} {e : TypeId} {cur : Array Value} (h : RowAt w g e cur) (hb : Below w.heap.size w w') : RowAt w' g e cur := by
  have := hb.block g h.lt
  unfold RowAt at *
  rw [this]; exact h
theorem RowAt.alloc {w : World} {g : Nat} {e : TypeId} {cur : Array Value} (h : RowAt w g e cur) (o : Obj) : RowAt (w.alloc o) g e cur := h.past (below_alloc (Below.refl _ _) o)

theorem OwnI.row {B g cap n : Nat} {e : TypeId} {L : List It} {W0 w : World} (h : OwnI B e (.slice (some ⟨g, 0, none⟩) n cap) L W0 w) :
    ∃ cur, RowAt w g e cur ∧ n = L.length ∧ B ≤ g ∧ L.length ≤ cap ∧ cap ≤ maxLen ∧ cur.size = cap * 3 ∧ cur.toList.take (L.length * 3) = icells L := by
  rcases h.1.2 with ⟨h', _⟩ | ⟨g', cap', cur, h', hB, hg, hcap, hmx, hsz, htk⟩
  · cases h'
  · cases h'
    exact ⟨cur, hg, rfl, hB, hcap, hmx, hsz, htk⟩
theorem OwnI.ofRow {B g cap : Nat} {e : TypeId} {L : List It} {W0 w : World} {cur : Array Value} (hr : RowAt w g e cur) (hB : B ≤ g) (hcap : L.length ≤ cap) (hmx : cap ≤ maxLen) (hsz : cur.size = cap * 3)
    (htk : cur.toList.take (L.length * 3) = icells L) (hb : Below B W0 w) : OwnI B e (.slice (some ⟨g, 0, none⟩) L.length cap) L W0 w :=
  ⟨⟨icells_length L, .inr ⟨g, cap, cur, rfl, hB, hr, hcap, hmx, hsz, htk⟩⟩, hb, Nat.le_trans hB (Nat.le_of_lt hr.lt)⟩

section
variable {P : Program}

/-- append where there is room, as one step of a region that draws: the row stays told whole -/
theorem step_append_row {ops : Array Oper} {o : Oper} {a : Act} {w : World} {K : Act → World → Prop} {Q : Exit → Act → World → Prop} {E : Prop} (hgd : o.guard = none) (s x : Operand) (t : TypeId)
    (hop : o.op = .call { callee := .builtin .append, args := #[s, x], argTypes := #[t, t] })
    (e : TypeId) (i : TypeInfo) (ht : P.underlying t = some (.slice e)) (hi : P.info? e = some i) (hsize : i.size = 3)
    (g sLen sCap : Nat) (cur : Array Value) (hr : RowAt w g e cur) (hs : a.eval s = .slice (some ⟨g, 0, none⟩) sLen sCap)
    (ad : Addr) (m c : Nat) (news : List Value) (hx : a.eval x = .slice (some ad) m c) (hl : news.length = m * 3) (hnews : ∀ j u, news[j]? = some u → w.cell? (ad.add j) = some u) (h1 : ∀ u ∈ news, u.oneCell' = true)
    (hroom : sLen + m ≤ sCap) (hfit : sLen * 3 + news.length ≤ cur.size)
    (hK : K (a.put o.dst (.slice (some ⟨g, 0, none⟩) (sLen + m) sCap)) (w.setRow g (over cur (sLen * 3) news))) :
    if Region.wanted o (yielded ops a.tmps) = true then Oper.wp P o a w K Q else E := by
  have hw : Region.wanted o (yielded ops a.tmps) = true := by simp [Region.wanted, hgd]
  rw [if_pos hw]
  have hrun : (Builtin.append_ #[t, t] o.type #[.slice (some ⟨g, 0, none⟩) sLen sCap, .slice (some ad) m c]).run P w = .ok (.slice (some ⟨g, 0, none⟩) (sLen + m) sCap) (w.setRow g (over cur (sLen * 3) news)) := by
    have h := run_append_room (P := P) w t o.type e i ht hi g sLen sCap cur hr ad m c news (by rw [hsize]; exact hl) hnews h1 hroom (by rw [hsize]; exact hfit)
    rw [hsize] at h
    exact h
  unfold Oper.wp
  simp [execOp, hop, resolve, invoke, builtin, hs, hx, hrun, Result.andThen]
  exact hK

/-- clear of one item -/
theorem run_clear_item (w : World) (t e ty : TypeId) (ht : P.underlying t = some (.slice e)) (z : Value) (hv : ∀ w, (zeroValue e).run P w = .ok z w) (zs : List Value) (hz : (Builtin.zeroCells z.cells 1).toList = zs) (h1 : ∀ u ∈ zs, u.oneCell' = true)
    (g o c : Nat) (cur : Array Value) (hr : RowAt w g e cur) (hfit : o + zs.length ≤ cur.size) :
    (Builtin.clear_ #[t] ty #[.slice (some ⟨g, o, none⟩) 1 c]).run P w = .ok (.tuple #[]) (w.setRow g (over cur o zs)) := by
  have hst := run_storeCells_at P g o e zs 0 cur w hr (by simpa using hfit) h1
  simp only [Nat.add_zero] at hst
  simp [Builtin.clear_, run_underlying ht, hv, hz, hst, over]
end
end Go.Proofs.YtajjhjabehiikabDoor
