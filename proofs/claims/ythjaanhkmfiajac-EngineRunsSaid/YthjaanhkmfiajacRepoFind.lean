/- repo.find and repo.Get: what they return. Condition: none but that the slice is one of items. -/
import Derived.Test.YthjaanhkmfiajacRepoCheck
namespace Go.Proofs.Ythjaanhkmfiajac
open Go.RowKit

set_option maxRecDepth 100000 in
theorem findPred_any (x : It) (id : Int) (B : Nat) (w : World) (hB : B < w.heap.size) (hc : w.cell? ⟨B, 0, none⟩ = some (.int .i64 id)) :
    Calls Try.prog 81 #[.agg #[.int .i64 x.id, .string x.data, .int .i64 x.refs], .pointer (some ⟨B, 0, none⟩)] w fun e w' => e = .returned (.bool (x.id == id)) ∧ Below w.heap.size w w' := by
  have hne : B ≠ w.heap.size := by omega
  by_cases hid : x.id = id
  all_goals
    have ht : (x.id == id) = decide (x.id = id) := by rw [Bool.eq_iff_iff]; simp
    rw [ht]
    go_enter Try.func81, Try.ntmps81
    go_wp2
    go_ret
    exact ⟨by simp_all, below_alloc (Below.refl _ _) _⟩

set_option maxRecDepth 100000 in
theorem IndexFunc_any (v : Value) (L : List It) (id : Int) (B : Nat) (w : World) (h : ItemsAt w v L) (hB : B < w.heap.size) (hcell : w.cell? ⟨B, 0, none⟩ = some (.int .i64 id)) :
    Calls Try.prog 80 #[v, .func (.func 81) #[] #[.pointer (some ⟨B, 0, none⟩)]] w fun e w' => e = .returned (.int .i64 (posInt L id)) ∧ Below w.heap.size w w' := by
  obtain ⟨p, cap, rfl, hl, _, hc⟩ := h
  have HC := Lib.hid hc
  have HB := Lib.hid hcell
  clear hc hcell
  go_enter Try.func80, Try.ntmps80
  go_wp2
  go_loopw [5, 8] (fun _ i wr => ∃ k : Nat, k ≤ L.length ∧ i = .int .i64 k ∧ (∀ (j : Nat) (y : It), j < k → L[j]? = some y → y.id ≠ id) ∧ Below w.heap.size w wr) (fun _ i _ => L.length - (intOf i).toNat)
  case atStart => exact ⟨0, Nat.zero_le _, rfl, fun j y hj => absurd hj (by omega), Below.refl _ _⟩
  case round =>
    obtain ⟨k, hk, rfl, hall, hb⟩ := hrel
    have HA := Lib.hid hall
    clear hall
    by_cases hlt : k < L.length
    · obtain ⟨x, hx⟩ : ∃ x, L[k]? = some x := ⟨L[k], List.getElem?_eq_getElem hlt⟩
      obtain ⟨b, off, rfl, hbl, c0, c1, c2⟩ := HC.out k x hx
      replace c0 := (hb.cell (p := ⟨b, _, none⟩) hbl).trans c0
      replace c1 := (hb.cell (p := ⟨b, _, none⟩) hbl).trans c1
      replace c2 := (hb.cell (p := ⟨b, _, none⟩) hbl).trans c2
      have HX := Lib.hid hx
      have hcell := (hb.cell (p := ⟨B, 0, none⟩) hB).trans HB.out
      have HCL := Lib.hid hcell
      clear hx hcell
      by_cases hid : x.id = id
      · have ht : (x.id == id) = true := by simpa using hid
        have hp : posInt L id = k := by unfold posInt; rw [pos_at HX.out hid HA.out]
        have HP := Lib.hid hp
        have HT := Lib.hid ht
        clear hid hp ht
        go_wp2_with (go_at_call 81; refine (findPred_any x id B _ (Nat.lt_of_lt_of_le hB hb.size) HCL.out).mono ?_; rw [HT.out]; rintro e w1 ⟨rfl, hb1⟩)
        go_ret
        exact ⟨ret_int HP.out.symm, below_then hb hb1⟩
      · have ht : (x.id == id) = false := by simpa using hid
        have HN : Hid (x.id ≠ id) := hid
        have HT := Lib.hid ht
        clear hid ht
        go_wp2_with (go_at_call 81; refine (findPred_any x id B _ (Nat.lt_of_lt_of_le hB hb.size) HCL.out).mono ?_; rw [HT.out]; rintro e w1 ⟨rfl, hb1⟩)
        go_roundw
        case rel => exact ⟨k + 1, by omega, by go_num, seen_more HA.out HX.out HN.out, below_then hb hb1⟩
        case measure => simp [intOf]; omega
    · have hp : posInt L id = -1 := by
        unfold posInt
        rw [pos_none (fun j y hj => HA.out j y (by have := (List.getElem?_eq_some_iff.1 hj).1; omega) hj)]
      have HP := Lib.hid hp
      clear hp
      go_wp2
      go_ret
      exact ⟨ret_int HP.out.symm, hb⟩

/-- the place and the error's number of find -/
def found (L : List It) (id : Int) : Int × Int :=
  if mayB L then match pos L id with
    | some k => ((k : Int), 0)
    | none => (0, 6)
  else (0, 7)
theorem found_bad {L : List It} {id : Int} (h : mayB L = false) : found L id = (0, 7) := by unfold found; rw [if_neg (by simp [h])]
theorem found_none {L : List It} {id : Int} (h : mayB L = true) (hp : pos L id = none) : found L id = (0, 6) := by unfold found; rw [if_pos h, hp]
theorem found_some {L : List It} {id : Int} {k : Nat} (h : mayB L = true) (hp : pos L id = some k) : found L id = ((k : Int), 0) := by unfold found; rw [if_pos h, hp]

set_option maxRecDepth 100000 in
theorem find_any (v : Value) (L : List It) (id : Int) (w : World) (h : ItemsAt w v L) :
    Calls Try.prog 72 #[v, .int .i64 id] w fun e w' => e = .returned (.tuple #[.int .i64 (found L id).1, .int .i64 (found L id).2]) ∧ Below w.heap.size w w' := by
  have hI := h.keep (below_alloc (Below.refl _ _) (.cells #[.int .i64 id] 3))
  have HI := Lib.hid hI
  clear h hI
  cases hm : mayB L with
  | false =>
    rw [found_bad hm]
    have hk : chk L = 7 := by unfold chk; rw [hm]; rfl
    have HK := Lib.hid hk
    clear hk hm
    go_enter Try.func72, Try.ntmps72
    go_wp2_with (go_at_call 70; refine (Check_any v L _ HI.out).mono ?_; rw [HK.out]; rintro e w1 ⟨rfl, hb1⟩)
    go_ret2
    exact ⟨rfl, below_box hb1⟩
  | true =>
    have hk : chk L = 0 := by unfold chk; rw [hm]; rfl
    have HK := Lib.hid hk
    clear hk
    have hlen := may_len hm
    cases hp : pos L id with
    | none =>
      rw [found_none hm hp]
      have HP := Lib.hid (posInt_none hp)
      clear hm hp
      go_enter Try.func72, Try.ntmps72
      go_wp2_with (first
        | (go_at_call 70; refine (Check_any v L _ HI.out).mono ?_; rw [HK.out]; rintro e w1 ⟨rfl, hb1⟩)
        | (go_at_call 80; refine (IndexFunc_any v L id w.heap.size _ (HI.out.keep hb1) (Nat.lt_of_lt_of_le (by simp) hb1.size) ((hb1.cell (p := ⟨w.heap.size, 0, none⟩) (by simp)).trans (by simp))).mono ?_; rw [HP.out]; rintro e w2 ⟨rfl, hb2⟩))
      go_ret2
      exact ⟨rfl, below_box (below_then hb1 hb2)⟩
    | some k =>
      rw [found_some hm hp]
      have HP := Lib.hid (posInt_some hp)
      have hk24 : k < 24 := by obtain ⟨x, hx, _⟩ := pos_lt hp; have := (List.getElem?_eq_some_iff.1 hx).1; omega
      clear hm hp
      go_enter Try.func72, Try.ntmps72
      go_wp2_with (first
        | (go_at_call 70; refine (Check_any v L _ HI.out).mono ?_; rw [HK.out]; rintro e w1 ⟨rfl, hb1⟩)
        | (go_at_call 80; refine (IndexFunc_any v L id w.heap.size _ (HI.out.keep hb1) (Nat.lt_of_lt_of_le (by simp) hb1.size) ((hb1.cell (p := ⟨w.heap.size, 0, none⟩) (by simp)).trans (by simp))).mono ?_; rw [HP.out]; rintro e w2 ⟨rfl, hb2⟩))
      go_ret2
      exact ⟨rfl, below_box (below_then hb1 hb2)⟩

theorem find_at {L : List It} {id a n : Int} (hf : found L id = (a, n)) (v : Value) (w : World) (h : ItemsAt w v L) :
    Calls Try.prog 72 #[v, .int .i64 id] w fun e w' => e = .returned (.tuple #[.int .i64 a, .int .i64 n]) ∧ Below w.heap.size w w' := by
  have := find_any v L id w h
  rw [hf] at this
  exact this
end Go.Proofs.Ythjaanhkmfiajac
