/- Keeping data that is not there some times, dropping it as often; one more use and its drop: items as plain data. No program's run. -/
import Derived.Test.YtajjhjabehiikabDoorKeptMath
import Derived.Test.YtajjhjabehiikabDoorVolSteps
namespace Go.Proofs.YtajjhjabehiikabDoor
open Go.RowKit

/-- the items with one more, of place and id g, in use j times -/
def withNew (L : List It) (g : Nat) (d : ByteArray) (j : Nat) : List It := L.take g ++ [⟨(g : Int), d, (j : Int)⟩] ++ L.drop g
theorem withNew_len {L : List It} {g : Nat} (hg : g ≤ L.length) (d : ByteArray) (j : Nat) : (withNew L g d j).length = L.length + 1 := by
  simp [withNew]; omega
theorem withNew_at {L : List It} {g : Nat} (hg : g ≤ L.length) (d : ByteArray) (j : Nat) : (withNew L g d j)[g]? = some ⟨(g : Int), d, (j : Int)⟩ := by
  unfold withNew
  rw [List.append_assoc, List.getElem?_append_right (by simp; omega)]
  have : g - (L.take g).length = 0 := by simp; omega
  rw [this]
  rfl
theorem withNew_lo {L : List It} {g : Nat} (hg : g ≤ L.length) (d : ByteArray) (j : Nat) {i : Nat} (hi : i < g) : (withNew L g d j)[i]? = L[i]? := by
  unfold withNew
  rw [List.append_assoc, List.getElem?_append_left (by simp; omega), List.getElem?_take_of_lt hi]
theorem withNew_set {L : List It} {g : Nat} (hg : g ≤ L.length) (d : ByteArray) (j : Nat) (r : Int) (m : Nat) (hr : r = (m : Int)) : (withNew L g d j).set g ⟨(g : Int), d, r⟩ = withNew L g d m := by
  subst hr
  unfold withNew
  have hl : (L.take g).length = g := by simp; omega
  rw [List.append_assoc, List.set_append_right _ _ (by omega), hl, Nat.sub_self, List.append_assoc]
  rfl

structure Fresh (L : List It) (g : Nat) (d : ByteArray) : Prop where
  may : mayB L = true
  len : L.length < 24
  gap : Gap L g
  size : d.size ≤ 48
  no : ∀ x ∈ L, x.data ≠ d
theorem Fresh.le {L : List It} {g : Nat} {d : ByteArray} (h : Fresh L g d) : g ≤ L.length := h.gap.1
theorem Fresh.valid {L : List It} {g : Nat} {d : ByteArray} (h : Fresh L g d) {j : Nat} (h1 : 1 ≤ j) (h2 : j ≤ 32) : mayB (withNew L g d j) = true := by
  have hle := h.le
  have hpw := may_pw h.may
  have hlo : ∀ x ∈ L.take g, x.id < (g : Int) := by
    intro x hx
    rw [← gap_lower h.may h.gap] at hx
    simpa using (List.mem_filter.1 hx).2
  have hhi : ∀ x ∈ L.drop g, (g : Int) < x.id := by
    intro x hx
    rw [← gap_upper h.may h.gap] at hx
    simpa using (List.mem_filter.1 hx).2
  refine may_of (fun x hx => ?_) ?_
  · unfold withNew at hx
    rcases List.mem_append.1 hx with hx | hx
    · rcases List.mem_append.1 hx with hx | hx
      · exact okB_of (may_mem h.may (List.mem_of_mem_take hx))
      · rw [List.mem_singleton] at hx
        subst hx
        have := h.len
        exact okB_of ⟨by show (0 : Int) ≤ (g : Int); omega, by show (g : Int) ≤ 23; omega, h.size, by show (1 : Int) ≤ (j : Int); omega, by show (j : Int) ≤ 32; omega⟩
    · exact okB_of (may_mem h.may (List.mem_of_mem_drop hx))
  · unfold withNew
    rw [List.append_assoc, List.pairwise_append]
    refine ⟨hpw.sublist (List.take_sublist _ _), ?_, ?_⟩
    · rw [List.pairwise_append]
      refine ⟨List.pairwise_singleton _ _, hpw.sublist (List.drop_sublist _ _), fun x hx y hy => ?_⟩
      rw [List.mem_singleton] at hx
      subst hx
      exact ⟨hhi y hy, fun e => h.no y (List.mem_of_mem_drop hy) e.symm⟩
    · intro x hx y hy
      rcases List.mem_append.1 hy with hy | hy
      · rw [List.mem_singleton] at hy
        subst hy
        exact ⟨hlo x hx, h.no x (List.mem_of_mem_take hx)⟩
      · rw [← List.take_append_drop g L] at hpw
        exact (List.pairwise_append.1 hpw).2.2 x hx y hy
theorem Fresh.first {L : List It} {g : Nat} {d : ByteArray} (h : Fresh L g d) : kept L d = (withNew L g d 1, (g : Int), 0) := by
  have hs := h.size
  have hln := h.len
  have hle := h.le
  rw [kept_new h.may (by omega) (posData_none (fun j y hy => h.no y (List.mem_of_getElem? hy)))]
  unfold added
  rw [gap_free h.may h.gap, if_neg (by omega), gap_lower h.may h.gap, gap_upper h.may h.gap]
  rfl
theorem Fresh.more {L : List It} {g : Nat} {d : ByteArray} (h : Fresh L g d) {j : Nat} (h1 : 1 ≤ j) (h2 : j < 32) : kept (withNew L g d j) d = (withNew L g d (j + 1), (g : Int), 0) := by
  have hs := h.size
  have hat := withNew_at h.le d j
  have hp : posData (withNew L g d j) d = some g := posData_at hat rfl (fun i y hi hy => by
    rw [withNew_lo h.le d j hi] at hy
    exact h.no y (List.mem_of_getElem? hy))
  rw [kept_old (h.valid h1 (by omega)) (by omega) hp hat, if_neg (by show ¬ (32 : Int) ≤ (j : Int); omega)]
  rw [withNew_set h.le d j ((j : Int) + 1) (j + 1) (by omega)]
theorem Fresh.got {L : List It} {g : Nat} {d : ByteArray} (h : Fresh L g d) {j : Nat} (h1 : 1 ≤ j) (h2 : j ≤ 32) : got (withNew L g d j) (g : Int) = (⟨(g : Int), d, (j : Int)⟩, 0) := by
  have hat := withNew_at h.le d j
  exact got_some (h.valid h1 h2) (pos_of (h.valid h1 h2) hat) hat
theorem Fresh.gone {L : List It} {g : Nat} {d : ByteArray} (h : Fresh L g d) : Go.Proofs.YtajjhjabehiikabDoor.got L (g : Int) = (It.zero, 6) := got_none h.may (gap_pos h.may h.gap)
theorem Fresh.less {L : List It} {g : Nat} {d : ByteArray} (h : Fresh L g d) {j : Nat} (h1 : 1 ≤ j) (h2 : j ≤ 32) : dropped (withNew L g d j) (g : Int) = (if j = 1 then L else withNew L g d (j - 1), 0) := by
  have hat := withNew_at h.le d j
  unfold dropped
  rw [h.got h1 h2, if_neg (by simp), drop_split (h.valid h1 h2) hat rfl]
  have hl : (L.take g).length = g := by have := h.le; simp; omega
  have e1 : (withNew L g d j).take g = L.take g := by
    unfold withNew
    rw [List.append_assoc, List.take_left' hl]
  have e2 : (withNew L g d j).drop (g + 1) = L.drop g := by
    unfold withNew
    rw [List.drop_left' (by simp; have := h.le; omega)]
  rw [e1, e2]
  by_cases hj : j = 1
  · subst hj
    rw [if_pos rfl]
    unfold dropOne
    simp
  · rw [if_neg hj]
    unfold dropOne withNew
    rw [if_pos rfl, if_pos (by show (0 : Int) < (j : Int) - 1; omega)]
    have : ((j : Int) - 1) = ((j - 1 : Nat) : Int) := by omega
    simp only [this]
    rfl

/-- one more use, and its drop -/
theorem use_some {L : List It} (hm : mayB L = true) {k : Nat} {x : It} (hx : L[k]? = some x) : used L x.id = if x.refs = 32 then ([], 1) else (L.set k { x with refs := x.refs + 1 }, 0) := by
  have hok := may_ok hm hx
  unfold used
  rw [got_some hm (pos_of hm hx) hx, if_neg (by simp), pos_of hm hx]
  by_cases h : x.refs = 32
  · rw [if_pos h, if_pos (by show (32 : Int) ≤ x.refs; omega)]
  · rw [if_neg h, if_neg (by show ¬ (32 : Int) ≤ x.refs; omega)]
theorem set_may {L : List It} (hm : mayB L = true) {k : Nat} {x : It} (hx : L[k]? = some x) (hr : x.refs < 32) : mayB (L.set k { x with refs := x.refs + 1 }) = true := by
  have hk := (List.getElem?_eq_some_iff.1 hx).1
  have hok := may_ok hm hx
  have hpw := may_pw hm
  have hget : ∀ i (hi : i < (L.set k { x with refs := x.refs + 1 }).length), ∃ (h2 : i < L.length), ((L.set k { x with refs := x.refs + 1 })[i]).id = L[i].id ∧ ((L.set k { x with refs := x.refs + 1 })[i]).data = L[i].data := by
    intro i hi
    have h2 : i < L.length := by simpa using hi
    refine ⟨h2, ?_⟩
    rw [List.getElem_set]
    by_cases he : k = i
    · subst he
      rw [if_pos rfl]
      have hxe := (List.getElem?_eq_some_iff.1 hx).2
      rw [hxe]
      exact ⟨rfl, rfl⟩
    · rw [if_neg he]
      exact ⟨rfl, rfl⟩
  refine may_of (fun y hy => ?_) ?_
  · rcases List.mem_or_eq_of_mem_set hy with hy | rfl
    · exact okB_of (may_mem hm hy)
    · exact okB_of ⟨hok.1, hok.2.1, hok.2.2.1, by show (1 : Int) ≤ x.refs + 1; omega, by show x.refs + 1 ≤ 32; omega⟩
  · rw [List.pairwise_iff_getElem] at hpw ⊢
    intro i j hi hj hij
    obtain ⟨i2, a1, a2⟩ := hget i hi
    obtain ⟨j2, b1, b2⟩ := hget j hj
    obtain ⟨c1, c2⟩ := hpw i j i2 j2 hij
    exact ⟨by rw [a1, b1]; exact c1, by rw [a2, b2]; exact c2⟩
theorem use_drop {L : List It} (hm : mayB L = true) {k : Nat} {x : It} (hx : L[k]? = some x) (hr : x.refs < 32) : dropped (L.set k { x with refs := x.refs + 1 }) x.id = (L, 0) := by
  have hk := (List.getElem?_eq_some_iff.1 hx).1
  have hok := may_ok hm hx
  have hm2 := set_may hm hx hr
  have hx2 : (L.set k { x with refs := x.refs + 1 })[k]? = some { x with refs := x.refs + 1 } := by simp [hk]
  unfold dropped
  rw [got_some hm2 (pos_of hm2 hx2) hx2, if_neg (by simp), drop_split hm2 hx2 rfl]
  unfold dropOne
  rw [if_pos rfl, if_pos (by show (0 : Int) < x.refs + 1 - 1; omega), List.take_set_of_le (Nat.le_refl _), List.drop_set_of_lt (by omega)]
  have e : x.refs + 1 - 1 = x.refs := by omega
  simp only [e, Option.toList_some]
  have he := (List.getElem?_eq_some_iff.1 hx).2
  rw [List.append_assoc]
  show (L.take k ++ ([x] ++ L.drop (k + 1)), (0 : Int)) = _
  rw [List.singleton_append, ← he, List.getElem_cons_drop, List.take_append_drop]
end Go.Proofs.YtajjhjabehiikabDoor
