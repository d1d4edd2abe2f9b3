/- Package log: Scan: what it returns. Conditions: at most 32 blocks; the text has at most 2^47 bytes, and so have the slices of what is found. -/
import Derived.Test.YthjaanhkmfiajacLogRead
import Derived.Test.YthjaanhkmfiajacPure
namespace Go.Proofs.Ythjaanhkmfiajac
open Go.RowKit PM

theorem infoWrites : (Try.prog.info? 37).map (fun i => (i.zero, i.size, i.bytes)) = some (some (.slice none 0 0), 1, 24) := by kernel_rfl
theorem drop_add' (l : List UInt8) (a b : Nat) : (l.drop a).drop b = l.drop (a + b) := by rw [List.drop_drop]

set_option maxRecDepth 100000 in
set_option maxHeartbeats 1000000 in
theorem Scan_any (s : ByteArray) (n : Nat) (hn : n ≤ 32) (hs : s.size ≤ 140737488355328) (hcnt : (LM.scan n s.data.toList).1.length * 24 ≤ 140737488355328) (w : World) :
    Calls Try.prog 40 #[.string s, .int .i64 (n : Int)] w fun e w' => ∃ v', e = .returned (.tuple #[v', .int .i64 ((LM.scan n s.data.toList).2 : Int)]) ∧ OwnD w.heap.size 37 v' (LM.scan n s.data.toList).1 w w' := by
  obtain ⟨i0, hi, hz0, hz1, hz2⟩ := info_parts infoWrites
  have hl := len_eq s
  obtain ⟨R, hR⟩ : ∃ R, R = LM.scan n s.data.toList := ⟨_, rfl⟩
  rw [← hR] at hcnt ⊢
  obtain ⟨A, T⟩ := R
  simp only at hcnt ⊢
  have HR := Lib.hid hR
  have HL := Lib.hid hl
  clear hR hl
  go_enter Try.func40, Try.ntmps40
  go_wp2
  go_loopw [6, 7] (fun a b wr => ∃ (k : Nat) (D : List (List Wr)), k ≤ s.size ∧ b = .int .i64 k ∧ OwnD w.heap.size 37 a D w wr ∧ Hid ((A, T) = (D ++ (LM.scan n (s.data.toList.drop k)).1, k + (LM.scan n (s.data.toList.drop k)).2))) (fun _ b _ => s.size - (intOf b).toNat)
  case atStart => exact ⟨0, [], Nat.zero_le _, rfl, OwnD.nil (Below.refl _ _) (Nat.le_refl _), Lib.hid (by rw [HR.out, List.drop_zero]; simp)⟩
  case round =>
    obtain ⟨k, D, hk, rfl, hown, HA⟩ := hrel
    obtain ⟨po, co, rfl⟩ := hown.isSlice
    have hki : (k : Int) ≤ (s.size : Int) := by omega
    have hex : (s.extract k s.size).data.toList = s.data.toList.drop k := ext_from s k
    have hexs : (s.extract k s.size).size ≤ 140737488355328 := by simp; omega
    have hrr := fun w => readRecord_any (s.extract k s.size) n hn hexs w
    rw [hex] at hrr
    have HO := Lib.hid hown
    clear hown hex hexs
    cases hrec : LM.recAt n (s.data.toList.drop k) with
    | none =>
      have hA := HA.out
      rw [LM.scan_none hrec] at hA
      simp only [List.append_nil, Nat.add_zero, Prod.mk.injEq] at hA
      rw [hrec] at hrr
      have HRR : Hid (∀ w : World, Calls Try.prog 64 #[.string (s.extract k s.size), .int .i64 (n : Int)] w fun e w' => e = .returned (.tuple #[.slice none 0 0, .int .i64 0, .bool false]) ∧ Below w.heap.size w w') := fun w => by
        refine (hrr w).mono ?_
        rintro e w' (⟨_, he, hb⟩ | ⟨_, _, _, h, _⟩)
        · exact ⟨he, hb⟩
        · cases h
      have H1 := Lib.hid hA.1
      have H2 := Lib.hid hA.2
      clear hrr hrec hA HA
      go_wp2_with (go_at_call 64; refine (HRR.out _).mono ?_; rintro e w1 ⟨rfl, hb1⟩)
      go_ret2
      rw [H2.out]
      exact ⟨_, rfl, (HO.out.past hb1).cast H1.out.symm⟩
    | some p =>
      obtain ⟨W, u⟩ := p
      have hu := LM.recAt_le hrec
      rw [List.length_drop, HL.out] at hu
      have hA := HA.out
      rw [LM.scan_some hrec, drop_add'] at hA
      have hA' : (A, T) = ((D ++ [W]) ++ (LM.scan n (s.data.toList.drop (k + u))).1, (k + u) + (LM.scan n (s.data.toList.drop (k + u))).2) := by
        rw [hA]
        simp [Nat.add_assoc]
      have hD : (D.length + 1) * 24 ≤ 140737488355328 := by
        have := congrArg (fun p : List (List Wr) × Nat => p.1.length) hA'
        simp at this
        omega
      rw [hrec] at hrr
      have HRR : Hid (∀ w : World, Calls Try.prog 64 #[.string (s.extract k s.size), .int .i64 (n : Int)] w fun e w' => ∃ v', e = .returned (.tuple #[v', .int .i64 (u : Int), .bool true]) ∧ OwnW w.heap.size 61 v' W w w' ∧ W.length ≤ 12) := fun w => by
        refine (hrr w).mono ?_
        rintro e w' (⟨h, _⟩ | ⟨v', V, u', h, he, ho, h12⟩)
        · cases h
        · cases h
          exact ⟨v', he, ho, h12⟩
      have HA2 := Lib.hid hA'
      clear hrr hrec hA hA' HA
      go_wp2_with (first
        | (go_at_call 64; refine (HRR.out _).mono ?_; rintro e w1 ⟨v1, rfl, ho1, h12⟩; obtain ⟨p1, c1, rfl⟩ := ho1.isSlice; have HO1 := Lib.hid ho1; clear ho1)
        | (at_builtin; refine wpList_own_deal rfl (.tmp 24) (.tmp 26) 81 rfl w.heap.size 37 (by decide) i0 _ Try.underlying81 hi hz0 rfl hz1 hz2 _ D rfl w _ _ W rfl (HO1.out.inner (by omega)) (HO.out.past HO1.out.below) _ rfl (by simp) hD ?_; intro v5 w5 ho5 _))
      go_roundw
      case rel => exact ⟨k + u, D ++ [W], by omega, by go_num, ho5, HA2⟩
      case measure => simp [intOf]; omega
end Go.Proofs.Ythjaanhkmfiajac
