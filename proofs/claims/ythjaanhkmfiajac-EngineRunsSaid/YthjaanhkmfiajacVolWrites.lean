/- volume.checkWrite and volume.CheckWrites: what they return. Condition: the numbers are ints. -/
import Derived.Test.YthjaanhkmfiajacPure
import Derived.Test.YthjaanhkmfiajacVolExists
namespace Go.Proofs.Ythjaanhkmfiajac
open Go.RowKit

/-- the error's number of one write, last being the block before it -/
def cwOf (x : Wr) (last n : Int) : Int := if ¬ (0 ≤ x.block ∧ x.block < n) then 6 else if 48 < x.data.size then 1 else if x.block ≤ last then 4 else 0
theorem cw_one {x : Wr} {last n : Int} {p : Option Int} (h : (p = none ∧ last = -1) ∨ p = some last) : cwOf x last n = wOne n p x := by
  unfold cwOf wOne
  by_cases h1 : 0 ≤ x.block ∧ x.block < n
  · have h1' : ¬ ¬ (0 ≤ x.block ∧ x.block ≤ n - 1) := by omega
    have h1'' : ¬ ¬ (0 ≤ x.block ∧ x.block < n) := by omega
    rw [if_neg h1', if_neg h1'']
    by_cases h2 : 48 < x.data.size
    · rw [if_pos h2, if_pos h2]
    · rw [if_neg h2, if_neg h2]
      rcases h with ⟨rfl, rfl⟩ | rfl
      · rw [if_neg (by omega)]
      · rfl
  · have h1' : ¬ (0 ≤ x.block ∧ x.block ≤ n - 1) := by omega
    rw [if_pos h1, if_pos h1']

set_option maxRecDepth 100000 in
set_option maxHeartbeats 1000000 in
theorem checkWrite_any (x : Wr) (last n : Int) (w : World) :
    Calls Try.prog 51 #[.agg #[.int .i64 x.block, .string x.data], .int .i64 last, .int .i64 n] w fun e w' => e = .returned (.int .i64 (cwOf x last n)) ∧ Below w.heap.size w w' := by
  obtain ⟨r, hr⟩ : ∃ r, r = cwOf x last n := ⟨_, rfl⟩
  rw [← hr]
  have HR := Lib.hid hr
  have hb := below_alloc (Below.refl w.heap.size w) (.cells #[.int .i64 x.block, .string x.data] 61)
  clear hr
  by_cases h1 : 0 ≤ x.block ∧ x.block < n
  · have he : exB x.block n = true := by unfold exB; simpa using h1
    have HE := Lib.hid he
    have H1 := Lib.hid h1
    clear he h1
    by_cases h2 : 48 < x.data.size
    · have hr : r = 1 := by rw [HR.out]; unfold cwOf; rw [if_neg (by have := H1.out; omega), if_pos h2]
      have HRR := Lib.hid hr
      clear hr
      go_enter Try.func51, Try.ntmps51
      go_wp2_with (go_at_call 57; refine (exists_any _ _ _).mono ?_; rw [HE.out]; rintro e w1 ⟨rfl, rfl⟩)
      go_ret
      exact ⟨ret_int HRR.out.symm, hb⟩
    · by_cases h3 : x.block ≤ last
      · have hr : r = 4 := by rw [HR.out]; unfold cwOf; rw [if_neg (by have := H1.out; omega), if_neg h2, if_pos h3]
        have HRR := Lib.hid hr
        have hd : decide (x.block ≤ last) = true := by simpa using h3
        clear hr h3
        go_enter Try.func51, Try.ntmps51
        go_wp2_with (go_at_call 57; refine (exists_any _ _ _).mono ?_; rw [HE.out]; rintro e w1 ⟨rfl, rfl⟩)
        go_ret
        exact ⟨ret_int HRR.out.symm, hb⟩
      · have hr : r = 0 := by rw [HR.out]; unfold cwOf; rw [if_neg (by have := H1.out; omega), if_neg h2, if_neg h3]
        have HRR := Lib.hid hr
        have hd : decide (x.block ≤ last) = false := by simpa using h3
        clear hr h3
        go_enter Try.func51, Try.ntmps51
        go_wp2_with (go_at_call 57; refine (exists_any _ _ _).mono ?_; rw [HE.out]; rintro e w1 ⟨rfl, rfl⟩)
        go_ret
        exact ⟨ret_int HRR.out.symm, hb⟩
  · have he : exB x.block n = false := by unfold exB; simpa using h1
    have hr : r = 6 := by rw [HR.out]; unfold cwOf; rw [if_pos h1]
    have HE := Lib.hid he
    have HRR := Lib.hid hr
    clear he hr h1
    go_enter Try.func51, Try.ntmps51
    go_wp2_with (go_at_call 57; refine (exists_any _ _ _).mono ?_; rw [HE.out]; rintro e w1 ⟨rfl, rfl⟩)
    go_ret
    exact ⟨ret_int HRR.out.symm, hb⟩
theorem checkWrite_at {x : Wr} {last n m : Int} (h : cwOf x last n = m) (w : World) :
    Calls Try.prog 51 #[.agg #[.int .i64 x.block, .string x.data], .int .i64 last, .int .i64 n] w fun e w' => e = .returned (.int .i64 m) ∧ Below w.heap.size w w' := h ▸ checkWrite_any x last n w

set_option maxRecDepth 100000 in
set_option maxHeartbeats 2000000 in
theorem VWrites_any (v : Value) (W : List Wr) (n : Int) (w : World) (h : WritesAt w v W) :
    Calls Try.prog 33 #[v, .int .i64 n] w fun e w' => e = .returned (.int .i64 (wFault W n)) ∧ Below w.heap.size w w' := by
  obtain ⟨p, cap, rfl, hl, _, hc⟩ := h
  have HC := Lib.hid hc
  clear hc
  by_cases h12 : 12 < W.length
  · have hr : wFault W n = 1 := by unfold wFault; rw [if_pos h12]
    rw [hr]
    clear hr
    go_enter Try.func33, Try.ntmps33
    go_wp2
    go_ret
    exact ⟨rfl, Below.refl _ _⟩
  · have hr : wFault W n = wRest n none W := by unfold wFault; rw [if_neg h12]
    rw [hr]
    obtain ⟨R, hR⟩ : ∃ R, R = wRest n none W := ⟨_, rfl⟩
    rw [← hR]
    have HR := Lib.hid hR
    clear hr hR
    go_enter Try.func33, Try.ntmps33
    go_wp2
    go_loopw [5, 14] (fun l i wr => ∃ (k : Nat) (li : Int), k ≤ W.length ∧ i = .int .i64 k ∧ l = .int .i64 li ∧ ((prevAt W k = none ∧ li = -1) ∨ prevAt W k = some li) ∧ wRest n none W = wRest n (prevAt W k) (W.drop k) ∧ Below w.heap.size w wr) (fun _ i _ => W.length - (intOf i).toNat)
    case atStart => exact ⟨0, -1, Nat.zero_le _, rfl, rfl, .inl ⟨rfl, rfl⟩, rfl, Below.refl _ _⟩
    case round =>
      obtain ⟨k, li, hk, rfl, rfl, hpr, hrest, hb⟩ := hrel
      have HREST := Lib.hid hrest
      have HPR := Lib.hid hpr
      clear hrest hpr
      by_cases hlt : k < W.length
      · obtain ⟨x, hx⟩ : ∃ x, W[k]? = some x := ⟨W[k], List.getElem?_eq_getElem hlt⟩
        obtain ⟨b, off, rfl, hbl, c0, c1⟩ := HC.out k x hx
        replace c0 := (hb.cell (p := ⟨b, _, none⟩) hbl).trans c0
        replace c1 := (hb.cell (p := ⟨b, _, none⟩) hbl).trans c1
        have hone := cw_one (x := x) (n := n) HPR.out
        have hpk : prevAt W (k + 1) = some x.block := by show (W[k]?).map Wr.block = _; rw [hx]; rfl
        have HX := Lib.hid hx
        have HPK := Lib.hid hpk
        have HONE := Lib.hid hone
        clear hx hpk hone
        by_cases h0 : cwOf x li n = 0
        · have hr := wRest_go HX.out HREST.out (by rw [← HONE.out]; exact h0)
          have HRR := Lib.hid hr
          have H0 := Lib.hid h0
          clear hr h0
          go_wp2_with (go_at_call 51; refine (checkWrite_at H0.out _).mono ?_; rintro e w2 ⟨rfl, hb2⟩; obtain ⟨q0, q1, f0, f1, hz⟩ := blk2 hb2)
          go_roundw
          case rel => exact ⟨k + 1, x.block, by omega, by go_num, rfl, .inr HPK.out, HRR.out, below_then (below_alloc hb _) hb2⟩
          case measure => simp [intOf]; omega
        · obtain ⟨m, hm⟩ : ∃ m, cwOf x li n = m := ⟨_, rfl⟩
          rw [hm] at h0
          have hr := wRest_stop HX.out HREST.out h0 (by rw [← HONE.out]; exact hm)
          rw [← HR.out] at hr
          have HRR := Lib.hid hr
          have HM := Lib.hid hm
          have ht : (m != 0) = true := by simpa using h0
          clear hr hm h0
          go_wp2_with (go_at_call 51; refine (checkWrite_at HM.out _).mono ?_; rintro e w2 ⟨rfl, hb2⟩; obtain ⟨q0, q1, f0, f1, hz⟩ := blk2 hb2)
          go_ret
          exact ⟨ret_int HRR.out.symm, below_then (below_alloc hb _) hb2⟩
      · have hr : R = 0 := by rw [HR.out, HREST.out, show k = W.length by omega, List.drop_length]; cases prevAt W W.length <;> rfl
        have HRR := Lib.hid hr
        clear hr
        go_wp2
        go_ret
        exact ⟨ret_int HRR.out.symm, hb⟩
end Go.Proofs.Ythjaanhkmfiajac
