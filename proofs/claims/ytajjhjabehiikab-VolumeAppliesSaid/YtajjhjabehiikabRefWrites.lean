/- The document's WritesFault: what it returns. No condition: at the least of all numbers of blocks the subtraction wraps, and the contract says so. -/
import Derived.Test.YtajjhjabehiikabWrites
import Derived.Test.YtajjhjabehiikabRefItems
namespace Go.Proofs.Ytajjhjabehiikab
open Go.RowKit

set_option maxRecDepth 100000 in
set_option maxHeartbeats 2000000 in
theorem WritesFault_any (v : Value) (W : List Wr) (n t : Int) (ht : IntKind.i64.wrap (n - 1) = t) (w : World) (h : WritesAt w v W) :
    Calls Try.prog 24 #[v, .int .i64 n] w fun e w' => e = .returned (.int .i64 (wFault W (t + 1))) ∧ Below w.heap.size w w' := by
  obtain ⟨p, cap, rfl, hl, _, hc⟩ := h
  have HC := Lib.hid hc
  clear hc
  by_cases h12 : 12 < W.length
  · have hr : wFault W (t + 1) = 1 := by unfold wFault; rw [if_pos h12]
    rw [hr]
    clear hr
    go_enter Try.func24, Try.ntmps24
    go_wp2
    go_ret
    exact ⟨rfl, Below.refl _ _⟩
  · have hr : wFault W (t + 1) = wRest (t + 1) none W := by unfold wFault; rw [if_neg h12]
    rw [hr]
    obtain ⟨R, hR⟩ : ∃ R, R = wRest (t + 1) none W := ⟨_, rfl⟩
    rw [← hR]
    have HR := Lib.hid hR
    clear hr hR
    go_enter Try.func24, Try.ntmps24
    go_wp2
    go_loopw [5] (fun i wr => ∃ k : Nat, k ≤ W.length ∧ i = .int .i64 k ∧ wRest (t + 1) none W = wRest (t + 1) (prevAt W k) (W.drop k) ∧ Below w.heap.size w wr) (fun i _ => W.length - (intOf i).toNat)
    case atStart => exact ⟨0, Nat.zero_le _, rfl, rfl, Below.refl _ _⟩
    case round =>
      obtain ⟨k, hk, rfl, hrest, hb⟩ := hrel
      have HREST := Lib.hid hrest
      clear hrest
      by_cases hlt : k < W.length
      · obtain ⟨x, hx⟩ : ∃ x, W[k]? = some x := ⟨W[k], List.getElem?_eq_getElem hlt⟩
        obtain ⟨b, off, rfl, hbl, c0, c1⟩ := HC.out k x hx
        replace c0 := (hb.cell (p := ⟨b, _, none⟩) hbl).trans c0
        replace c1 := (hb.cell (p := ⟨b, _, none⟩) hbl).trans c1
        have HX := Lib.hid hx
        clear hx
        by_cases hin : 0 ≤ x.block ∧ x.block ≤ t
        · have hi : inB x.block 0 t = true := by unfold inB; simpa using hin
          have HIN := Lib.hid hi
          have HIN2 := Lib.hid hin
          clear hi hin
          by_cases hd48 : 48 < x.data.size
          · have hr := wRest_stop HX.out HREST.out (m := 1) (by decide) (by unfold wOne; rw [if_neg (by have := HIN2.out; omega), if_pos hd48])
            rw [← HR.out] at hr
            have HRR := Lib.hid hr
            clear hr
            go_wp2_with (go_at_call 45; refine (In_any _ _ _ _).mono ?_; rw [HIN.out]; rintro e w2 ⟨rfl, rfl⟩)
            go_ret
            exact ⟨ret_int HRR.out.symm, hb⟩
          · cases k with
            | zero =>
              simp only [Nat.zero_mul, Nat.add_zero] at c0 c1
              have h0 : wOne (t + 1) (prevAt W 0) x = 0 := by unfold wOne prevAt; rw [if_neg (by have := HIN2.out; omega), if_neg hd48]
              have hr := wRest_go HX.out HREST.out h0
              have HRR := Lib.hid hr
              clear hr h0
              go_wp2_with (go_at_call 45; refine (In_any _ _ _ _).mono ?_; rw [HIN.out]; rintro e w2 ⟨rfl, rfl⟩)
              go_quiet (fail)
              go_wp2
              go_roundw
              case rel => exact ⟨1, by omega, by go_num, HRR.out, below_dr hb _⟩
              case measure => simp [intOf]; omega
            | succ j =>
              obtain ⟨y, hy⟩ : ∃ y, W[j]? = some y := ⟨W[j], List.getElem?_eq_getElem (by omega)⟩
              obtain ⟨b', off', hp', _, d0, _⟩ := HC.out j y hy
              cases hp'
              replace d0 := (hb.cell (p := ⟨b, _, none⟩) hbl).trans d0
              have hpr : prevAt W (j + 1) = some y.block := by show (W[j]?).map Wr.block = _; rw [hy]; rfl
              have HPR := Lib.hid hpr
              clear hy hpr
              have hpos : decide ((0 : Int) < (j : Int) + 1) = true := by rw [decide_eq_true_eq]; omega
              have hj1 : (j : Int) + 1 - 1 = (j : Int) := by omega
              have hw := IntWalk.i64_in ((j : Int) + 1 - 1) (by omega)
              by_cases hle : x.block ≤ y.block
              · have h0 : wOne (t + 1) (prevAt W (j + 1)) x = 4 := by unfold wOne; rw [if_neg (by have := HIN2.out; omega), if_neg hd48, HPR.out]; simp only; rw [if_pos hle]
                have hr := wRest_stop HX.out HREST.out (m := 4) (by decide) h0
                rw [← HR.out] at hr
                have HRR := Lib.hid hr
                have hd : decide (x.block ≤ y.block) = true := by simpa using hle
                clear hr h0 hle
                go_wp2_with (go_at_call 45; refine (In_any _ _ _ _).mono ?_; rw [HIN.out]; rintro e w2 ⟨rfl, rfl⟩)
                go_quiet (fail)
                go_wp2
                go_ret
                exact ⟨ret_int HRR.out.symm, below_dr hb _⟩
              · have h0 : wOne (t + 1) (prevAt W (j + 1)) x = 0 := by unfold wOne; rw [if_neg (by have := HIN2.out; omega), if_neg hd48, HPR.out]; simp only; rw [if_neg hle]
                have hr := wRest_go HX.out HREST.out h0
                have HRR := Lib.hid hr
                have hd : decide (x.block ≤ y.block) = false := by simpa using hle
                clear hr h0 hle
                go_wp2_with (go_at_call 45; refine (In_any _ _ _ _).mono ?_; rw [HIN.out]; rintro e w2 ⟨rfl, rfl⟩)
                go_quiet (fail)
                go_wp2
                go_roundw
                case rel => exact ⟨j + 1 + 1, by omega, by go_num, HRR.out, below_dr hb _⟩
                case measure => simp [intOf]; omega
        · have hi : inB x.block 0 t = false := by unfold inB; simpa using hin
          have hr := wRest_stop HX.out HREST.out (m := 6) (by decide) (by unfold wOne; rw [if_pos (by omega)])
          rw [← HR.out] at hr
          have HRR := Lib.hid hr
          have HIN := Lib.hid hi
          clear hr hi hin
          go_wp2_with (go_at_call 45; refine (In_any _ _ _ _).mono ?_; rw [HIN.out]; rintro e w2 ⟨rfl, rfl⟩)
          go_ret
          exact ⟨ret_int HRR.out.symm, hb⟩
      · have hr : R = 0 := by rw [HR.out, HREST.out, show k = W.length by omega, List.drop_length]; cases prevAt W W.length <;> rfl
        have HRR := Lib.hid hr
        clear hr
        go_wp2
        go_ret
        exact ⟨ret_int HRR.out.symm, hb⟩
end Go.Proofs.Ytajjhjabehiikab
