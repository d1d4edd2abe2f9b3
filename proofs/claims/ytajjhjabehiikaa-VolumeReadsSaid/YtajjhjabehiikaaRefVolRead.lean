/- The document's ReadOf and the statements' own sameVolume: what they return. No condition. -/
import Derived.Test.YtajjhjabehiikaaRefVolMay
import Derived.Test.YtajjhjabehiikaaVolAns
import Derived.Test.YtajjhjabehiikaaSameItems
namespace Go.Proofs.Ytajjhjabehiikaa
open Go.RowKit

set_option maxRecDepth 100000 in
set_option maxHeartbeats 1000000 in
theorem ReadOf_any (v : Value) (V : Vol) (n : Int) (hn : -9223372036854775808 ≤ n ∧ n ≤ 9223372036854775807) (w : World) (h : VolAt w v V) :
    Calls Try.prog 36 #[v, .int .i64 n] w fun e w' => e = .returned (.tuple #[.string (readOf V n).1, .int .i64 (readOf V n).2]) ∧ Below w.heap.size w w' := by
  have h' := h
  obtain ⟨vi, vb, rfl, hI, hZ⟩ := h'
  have hI' := hI
  obtain ⟨p, cap, rfl, hl, _, hc⟩ := hI'
  obtain ⟨pz, capz, rfl, hlz, _, hcz⟩ := hZ
  have HV := Lib.hid h
  have HI := Lib.hid hI
  have HC := Lib.hid hc
  have HZ := Lib.hid hcz
  clear hc hI hcz h
  cases hm : volB V with
  | false =>
    have hr : readOf V n = (⟨#[]⟩, 7) := by unfold readOf; rw [if_pos hm]
    have HR := Lib.hid hr
    have HM := Lib.hid hm
    clear hr hm
    go_enter Try.func36, Try.ntmps36
    go_wp2_with (go_at_call 33; refine (VolumeMay_any _ V _ (HV.out.keep ((Below.refl _ _).alloc (Nat.le_refl _) _))).mono ?_; rw [HM.out]; rintro e w1 ⟨rfl, hb1⟩; have hP : Past2 w _ _ _ w1 := hb1; obtain ⟨q0, q1, f0, f1, hz⟩ := hP.cells)
    go_ret2
    exact ⟨ret_read HR.out, hP.box⟩
  | true =>
    have HM := Lib.hid hm
    have hlen := vol_len32 hm
    have hl1 := hlen.1
    have hl2 := hlen.2
    by_cases hin : 0 ≤ n ∧ n ≤ (V.blocks.length : Int) - 1
    · have hi : inB n 0 ((V.blocks.length : Int) - 1) = true := by unfold inB; simpa using hin
      have HIN := Lib.hid hi
      obtain ⟨k, rfl⟩ : ∃ k : Nat, n = (k : Int) := ⟨n.toNat, by omega⟩
      have hk : k < V.blocks.length := by omega
      obtain ⟨z, hzk⟩ : ∃ z, V.blocks[k]? = some z := ⟨V.blocks[k], List.getElem?_eq_getElem hk⟩
      obtain ⟨b, off, rfl, hbl, c0⟩ := HZ.out k z hzk
      have C0 := Lib.hid c0
      have hr0 : readOf V (k : Int) = if z < 0 then ((⟨#[]⟩, 0) : ByteArray × Int) else match pos V.items z with
          | some q => ((V.items[q]?.getD It.zero).data, 0)
          | none => (⟨#[]⟩, 0) := by
        unfold readOf; rw [if_neg (by simp [hm]), if_neg (by simpa using hin)]; simp [hzk]; rfl
      by_cases hz0 : z < 0
      · rw [if_pos hz0] at hr0
        have HR := Lib.hid hr0
        clear hr0 hm hi hin c0 hzk
        go_enter Try.func36, Try.ntmps36
        go_wp2_with (first
          | (go_at_call 33; refine (VolumeMay_any _ V _ (HV.out.keep ((Below.refl _ _).alloc (Nat.le_refl _) _))).mono ?_; rw [HM.out]; rintro e w1 ⟨rfl, hb1⟩; have hP : Past2 w _ _ _ w1 := hb1; obtain ⟨q0, q1, f0, f1, hz⟩ := hP.cells; have d0 := (hP.box.cell (p := ⟨b, _, none⟩) hbl).trans C0.out)
          | (go_at_call 42; refine (In_any _ _ _ _).mono ?_; rw [HIN.out]; rintro e w2 ⟨rfl, rfl⟩))
        go_ret2
        exact ⟨ret_read HR.out, hP.box⟩
      · rw [if_neg hz0] at hr0
        have hbk := vol_at hm hzk
        cases hp : pos V.items z with
        | none =>
          unfold blockB at hbk
          rw [hp] at hbk
          simp at hbk
          omega
        | some q =>
          obtain ⟨x, hx, _⟩ := pos_lt hp
          have hq := (List.getElem?_eq_some_iff.1 hx).1
          obtain ⟨bi, offi, rfl, hbi, _, c1, _⟩ := HC.out q x hx
          rw [hp] at hr0
          simp only [hx, Option.getD_some] at hr0
          have HR := Lib.hid hr0
          have C1 := Lib.hid c1
          have HP := Lib.hid (posInt_some hp)
          clear hr0 hm hi hin c0 c1 hzk hp hx hbk
          go_enter Try.func36, Try.ntmps36
          go_wp2_with (first
            | (go_at_call 33; refine (VolumeMay_any _ V _ (HV.out.keep ((Below.refl _ _).alloc (Nat.le_refl _) _))).mono ?_; rw [HM.out]; rintro e w1 ⟨rfl, hb1⟩; have hP : Past2 w _ _ _ w1 := hb1; obtain ⟨q0, q1, f0, f1, hz⟩ := hP.cells; have d0 := (hP.box.cell (p := ⟨b, _, none⟩) hbl).trans C0.out; have d1 := (hP.box.cell (p := ⟨bi, _, none⟩) hbi).trans C1.out)
            | (go_at_call 42; refine (In_any _ _ _ _).mono ?_; rw [HIN.out]; rintro e w2 ⟨rfl, rfl⟩))
          have hcall : ∀ n, Calls Try.prog 44 #[.slice (some ⟨bi, offi, none⟩) V.items.length cap, .int .i64 z] (w1.drewN n) (fun e w'' => e = .returned (.int .i64 (q : Int)) ∧ w'' = w1.drewN n) := fun n => (itemAt_any _ V.items z _ (HI.out.keep (hP.dr n).box)).mono fun e w' he => ⟨by rw [← HP.out]; exact he.1, he.2.symm⟩
          have HCALL := Lib.hid hcall
          clear hcall
          go_quiet ((go_at_call 44; exact Calls.quiet_of_same (HCALL.out _)))
          go_wp2
          go_ret2
          exact ⟨ret_read HR.out, (hP.dr _).box⟩
    · have hi : inB n 0 ((V.blocks.length : Int) - 1) = false := by unfold inB; simpa using hin
      have HIN := Lib.hid hi
      have hr : readOf V n = (⟨#[]⟩, 6) := by unfold readOf; rw [if_neg (by simp [hm]), if_pos hin]
      have HR := Lib.hid hr
      clear hr hm hi hin
      go_enter Try.func36, Try.ntmps36
      go_wp2_with (first
        | (go_at_call 33; refine (VolumeMay_any _ V _ (HV.out.keep ((Below.refl _ _).alloc (Nat.le_refl _) _))).mono ?_; rw [HM.out]; rintro e w1 ⟨rfl, hb1⟩; have hP : Past2 w _ _ _ w1 := hb1; obtain ⟨q0, q1, f0, f1, hz⟩ := hP.cells)
        | (go_at_call 42; refine (In_any _ _ _ _).mono ?_; rw [HIN.out]; rintro e w2 ⟨rfl, rfl⟩))
      go_ret2
      exact ⟨ret_read HR.out, hP.box⟩
end Go.Proofs.Ytajjhjabehiikaa
