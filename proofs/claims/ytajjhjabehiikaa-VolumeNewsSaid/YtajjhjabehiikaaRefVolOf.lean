/- The document's VolumeOf: what it returns. No condition. -/
import Derived.Test.YtajjhjabehiikaaRefItems
import Derived.Test.YtajjhjabehiikaaVolOwn
import Derived.Test.YtajjhjabehiikaaVolAns
namespace Go.Proofs.Ytajjhjabehiikaa
open Go.RowKit

set_option maxRecDepth 100000 in
set_option maxHeartbeats 1000000 in
theorem VolumeOf_any (n : Int) (w : World) : Calls Try.prog 30 #[.int .i64 n] w (RetVol (newOf n).1 (newOf n).2 w) := by
  obtain ⟨i0, hi, hz0, hz1, hz2⟩ := info_parts Try.infoInt
  by_cases hin : 1 ≤ n ∧ n ≤ 32
  · have hr : newOf n = (newV n.toNat, 0) := by unfold newOf; rw [if_pos hin]
    rw [hr]
    obtain ⟨m, rfl⟩ : ∃ m : Nat, n = (m : Int) := ⟨n.toNat, by omega⟩
    rw [Int.toNat_natCast]
    have hm32 : m ≤ 32 := by omega
    have hm1 : 1 ≤ m := by omega
    have hIN : inB (m : Int) 1 32 = true := by unfold inB; simpa using hin
    have HIN := Lib.hid hIN
    clear hr hin hIN
    go_enter Try.func30, Try.ntmps30
    go_wp2_with (go_at_call 42; refine (In_any _ _ _ _).mono ?_; rw [HIN.out]; rintro e w2 ⟨rfl, rfl⟩)
    go_loopw [5] (fun i wr => ∃ (k : Nat) (vb : Value), k ≤ m ∧ i = .int .i64 k ∧ wr.cell? ⟨w.heap.size + 1, 0, none⟩ = some (.slice none 0 0) ∧ wr.cell? ⟨w.heap.size + 1, 1, none⟩ = some vb ∧ wr.frozen? ⟨w.heap.size + 1, 1, none⟩ = false ∧
      wr.cell? ⟨w.heap.size, 0, none⟩ = some (.slice none 0 0) ∧ wr.cell? ⟨w.heap.size, 1, none⟩ = some (.slice none 0 0) ∧ wr.frozen? ⟨w.heap.size, 0, none⟩ = false ∧ wr.frozen? ⟨w.heap.size, 1, none⟩ = false ∧
      OwnZ (w.heap.size + 2) 3 vb (List.replicate k (-1)) wr wr ∧ Below w.heap.size w wr) (fun i _ => m - (intOf i).toNat)
    case atStart =>
      refine ⟨0, _, Nat.zero_le _, rfl, by simp, by simp, by simp, by simp, by simp, by simp, by simp, OwnZ.nil (Below.refl _ _) (by simp), ?_⟩
      exact below_alloc (below_alloc (Below.refl _ _) _) _
    case round =>
      obtain ⟨k, vb, hk, rfl, q0, q1, f1, r0, r1, g0, g1, hown, hb⟩ := hrel
      have hN : w.heap.size + 2 ≤ wr.heap.size := hown.2.2
      have hNlt : w.heap.size + 1 < w.heap.size + 2 := by omega
      have hRlt : w.heap.size < w.heap.size + 2 := by omega
      have hle2 : w.heap.size ≤ w.heap.size + 2 := by omega
      have hk33 : (List.replicate k (-1 : Int)).length + 1 ≤ 1000000 := by simp; omega
      by_cases hlt : k < m
      · go_wp2_with (at_builtin; go_loud (refine wpList_own_int rfl (.tmp 17) (.tmp 18) 40 rfl (w.heap.size + 2) 3 i0 _ Try.underlying40 hi hz0 rfl hz1 hz2 vb _ rfl wr wr (-1) hown _ rfl (by simp) hk33 ?_; intro v2 w2 hown2 hgr2; obtain ⟨gg, cap2, rfl, _, _, _⟩ := hown2.shape (by simp); have c0 := (hown2.below.cell (p := ⟨w.heap.size + 1, 0, none⟩) hNlt).trans q0; have c1 := (hown2.below.cell (p := ⟨w.heap.size + 1, 1, none⟩) hNlt).trans q1; have e1 := (hown2.below.frozen (p := ⟨w.heap.size + 1, 1, none⟩) hNlt).trans f1; have c2 := (hown2.below.cell (p := ⟨w.heap.size, 0, none⟩) hRlt).trans r0; have c3 := (hown2.below.cell (p := ⟨w.heap.size, 1, none⟩) hRlt).trans r1; have e2 := (hown2.below.frozen (p := ⟨w.heap.size, 0, none⟩) hRlt).trans g0; have e3 := (hown2.below.frozen (p := ⟨w.heap.size, 1, none⟩) hRlt).trans g1; have hb2 := hb.trans (hown2.below.mono hle2)))
        go_roundw
        case rel =>
          refine ⟨k + 1, _, by omega, by go_num, (World.cell?_setCell_other _ _ _ _ (by simp)).trans c0, World.cell?_setCell_same _ _ _ c1, by simp [e1], (World.cell?_setCell_other _ _ _ _ (by simp)).trans c2, (World.cell?_setCell_other _ _ _ _ (by simp)).trans c3, by simp [e2], by simp [e3], ?_, hb2.setCell (p := ⟨w.heap.size + 1, 1, none⟩) (Nat.le_succ _) _⟩
          have hh := (hown2.cast (l' := List.replicate (k + 1) (-1)) (by rw [List.replicate_succ'])).setBox (k := 1) (x := .slice (some ⟨gg, 0, none⟩) (k + 1) cap2) hNlt
          simpa using hh
        case measure => simp [intOf]; omega
      · have hkm : k = m := by omega
        subst hkm
        obtain ⟨gg, cap2, rfl, _, _, _⟩ := hown.shape (by simp; omega)
        simp only [List.length_replicate] at hown
        go_wp2
        have hfin : OwnVol w.heap.size (.slice none 0 0) (.slice (some ⟨gg, 0, none⟩) k cap2) (newV k) w ((wr.setCell ⟨w.heap.size, 0, none⟩ (.slice none 0 0)).setCell ⟨w.heap.size, 1, none⟩ (.slice (some ⟨gg, 0, none⟩) k cap2)) := by
          have hbb := below_set2 hb (.slice none 0 0) (.slice (some ⟨gg, 0, none⟩) k cap2)
          refine ⟨OwnI.nil hbb hbb.size, ?_, Or.inl rfl⟩
          exact ((hown.setBox (g := w.heap.size) (k := 0) (x := .slice none 0 0) (by omega)).setBox (g := w.heap.size) (k := 1) (x := .slice (some ⟨gg, 0, none⟩) k cap2) (by omega)).lower (by omega) hbb
        refine bodyPost_ret (v := .tuple #[.agg #[.slice none 0 0, .slice (some ⟨gg, 0, none⟩) k cap2], .int .i64 0]) (by simp [results, Try.results30, go_sem, r0, r1]) rfl ⟨_, _, rfl, hfin⟩
  · have hr : newOf n = (⟨[], []⟩, 2) := by unfold newOf; rw [if_neg hin]
    rw [hr]
    have hIN : inB n 1 32 = false := by unfold inB; simpa using hin
    have HIN := Lib.hid hIN
    clear hr hin hIN
    go_enter Try.func30, Try.ntmps30
    go_wp2_with (go_at_call 42; refine (In_any _ _ _ _).mono ?_; rw [HIN.out]; rintro e w2 ⟨rfl, rfl⟩)
    have hb0 := below_alloc (Below.refl w.heap.size w) (.cells #[.slice none 0 0, .slice none 0 0] 42)
    refine bodyPost_ret (v := .tuple #[.agg #[.slice none 0 0, .slice none 0 0], .int .i64 2]) (by simp [results, Try.results30, go_sem]) rfl ⟨_, _, rfl, OwnVol.none hb0 hb0.size⟩
end Go.Proofs.Ytajjhjabehiikaa
