/- volume.Read: what it returns. Condition: the number and the blocks are ints. -/
import Derived.Test.YthjaanhkmfiajacVolCheck
import Derived.Test.YthjaanhkmfiajacVolExists
import Derived.Test.YthjaanhkmfiajacRepoGet
import Derived.Deep.RegionHeld3
namespace Go.Proofs.Ythjaanhkmfiajac
open Go.RowKit

theorem Get_at {L : List It} {id : Int} {x : It} {n : Int} (hg : got L id = (x, n)) (v : Value) (w : World) (h : ItemsAt w v L) :
    Calls Try.prog 58 #[v, .int .i64 id] w fun e w' => e = .returned (.tuple #[.agg #[.int .i64 x.id, .string x.data, .int .i64 x.refs], .int .i64 n]) ∧ Below w.heap.size w w' := by
  refine (Get_any v L id w h).mono ?_
  rw [hg]
  exact fun e w' he => he

set_option maxRecDepth 100000 in
set_option maxHeartbeats 2000000 in
theorem VRead_any (v : Value) (V : Vol) (n : Int) (hn : -9223372036854775808 ≤ n ∧ n ≤ 9223372036854775807) (w : World) (h : VolAt w v V) (hwz : WideZ V.blocks) :
    Calls Try.prog 36 #[v, .int .i64 n] w fun e w' => e = .returned (.tuple #[.string (readOf V n).1, .int .i64 (readOf V n).2]) ∧ Below w.heap.size w w' := by
  have h' := h
  obtain ⟨vi, vb, rfl, hI, hZ⟩ := h'
  have hI' := hI
  obtain ⟨p, cap, rfl, hl, _, hc⟩ := hI'
  obtain ⟨pz, capz, rfl, hlz, _, hcz⟩ := hZ
  have HV := Lib.hid h
  have HI := Lib.hid hI
  have HZ := Lib.hid hcz
  have HWZ := Lib.hid hwz
  clear hc hI hcz h hwz
  cases hm : volB V with
  | false =>
    have hr : readOf V n = (⟨#[]⟩, 7) := by unfold readOf; rw [if_pos hm]
    have hk : vchk V = 7 := by unfold vchk; rw [hm]; rfl
    have HR := Lib.hid hr
    have HK := Lib.hid hk
    clear hr hm hk
    go_enter Try.func36, Try.ntmps36
    go_wp2_with (go_at_call 56; refine (VCheck_any _ V _ (HV.out.keep ((Below.refl _ _).alloc (Nat.le_refl _) _)) HWZ.out).mono ?_; rw [HK.out]; rintro e w1 ⟨rfl, hb1⟩; have hP : Past2 w _ _ _ w1 := hb1; obtain ⟨q0, q1, f0, f1, hz⟩ := hP.cells)
    go_ret2
    exact ⟨ret_read HR.out, hP.box⟩
  | true =>
    have hk : vchk V = 0 := by unfold vchk; rw [hm]; rfl
    have HK := Lib.hid hk
    clear hk
    by_cases hin : 0 ≤ n ∧ n ≤ (V.blocks.length : Int) - 1
    · have hi : exB n (V.blocks.length : Int) = true := by unfold exB; rw [decide_eq_true_eq]; omega
      have HIN := Lib.hid hi
      obtain ⟨k, rfl⟩ : ∃ k : Nat, n = (k : Int) := ⟨n.toNat, by omega⟩
      have hk : k < V.blocks.length := by omega
      obtain ⟨z, hzk⟩ : ∃ z, V.blocks[k]? = some z := ⟨V.blocks[k], List.getElem?_eq_getElem hk⟩
      obtain ⟨b, off, rfl, hbl, c0⟩ := HZ.out k z hzk
      have C0 := Lib.hid c0
      have hbk := vol_at hm hzk
      have hr0 : readOf V (k : Int) = if z < 0 then ((⟨#[]⟩, 0) : ByteArray × Int) else match pos V.items z with
          | some q => ((V.items[q]?.getD It.zero).data, 0)
          | none => (⟨#[]⟩, 0) := by
        unfold readOf; rw [if_neg (by simp [hm]), if_neg (by simpa using hin)]; simp [hzk]; rfl
      by_cases hz0 : z = -1
      · rw [if_pos (by omega)] at hr0
        have HR := Lib.hid hr0
        have ht : (z == -1) = true := by simpa using hz0
        clear hr0 hm hi hin c0 hzk hbk hz0
        go_enter Try.func36, Try.ntmps36
        go_wp2_with (first
          | (go_at_call 56; refine (VCheck_any _ V _ (HV.out.keep ((Below.refl _ _).alloc (Nat.le_refl _) _)) HWZ.out).mono ?_; rw [HK.out]; rintro e w1 ⟨rfl, hb1⟩; have hP : Past2 w _ _ _ w1 := hb1; obtain ⟨q0, q1, f0, f1, hz⟩ := hP.cells; have d0 := (hP.box.cell (p := ⟨b, _, none⟩) hbl).trans C0.out)
          | (go_at_call 57; refine (exists_any _ _ _).mono ?_; rw [HIN.out]; rintro e w2 ⟨rfl, rfl⟩))
        go_ret2
        exact ⟨ret_read HR.out, hP.box⟩
      · have hbk' := hbk
        unfold blockB at hbk'
        simp only [Bool.or_eq_true, Bool.and_eq_true, decide_eq_true_eq] at hbk'
        have hz1 : 0 ≤ z := by
          rcases hbk' with h | h
          · exact absurd h hz0
          · exact h.1
        rw [if_neg (by omega)] at hr0
        cases hp : pos V.items z with
        | none =>
          rw [hp] at hbk'
          simp at hbk'
          omega
        | some q =>
          obtain ⟨x, hx, hxid⟩ := pos_lt hp
          clear hxid
          have hmi : mayB V.items = true := (volB_iff.1 hm).may
          have hg := got_some hmi hp hx
          rw [hp] at hr0
          simp only [hx, Option.getD_some] at hr0
          have HR := Lib.hid hr0
          have HG := Lib.hid hg
          have ht : (z == -1) = false := by simpa using hz0
          have ki0 : (0 : Int) ≤ (k : Int) := by omega
          have ki1 : (k : Int) < (V.blocks.length : Int) := by omega
          clear hr0 hm hi hin c0 hzk hp hx hbk hbk' hg hmi hz0 hz1
          go_enter Try.func36, Try.ntmps36
          go_wp2_with (first
            | (go_at_call 56; refine (VCheck_any _ V _ (HV.out.keep ((Below.refl _ _).alloc (Nat.le_refl _) _)) HWZ.out).mono ?_; rw [HK.out]; rintro e w1 ⟨rfl, hb1⟩; have hP : Past2 w _ _ _ w1 := hb1; obtain ⟨q0, q1, f0, f1, hz⟩ := hP.cells; have d0 := (hP.box.cell (p := ⟨b, _, none⟩) hbl).trans C0.out)
            | (go_at_call 57; refine (exists_any _ _ _).mono ?_; rw [HIN.out]; rintro e w2 ⟨rfl, rfl⟩))
          have hbz : b < w1.heap.size := Nat.lt_trans hbl hz
          have n1 : ¬ w1.heap.size = w.heap.size := by omega
          have n2 : ¬ w.heap.size = w1.heap.size := by omega
          have n3 : ¬ w1.heap.size = b := by omega
          have n4 : ¬ b = w1.heap.size := by omega
          go_region_held3 (fun w' => w'.cell? ⟨w.heap.size, 0, none⟩ = some (.slice p V.items.length cap) ∧ w'.cell? ⟨w.heap.size, 1, none⟩ = some (.slice (some ⟨b, off, none⟩) V.blocks.length capz) ∧ w'.cell? ⟨b, off + k, none⟩ = some (.int .i64 z)) (first | exact ⟨k0, k1, k2⟩ | go_keep)
            (first
              | (go_at_call 58; refine (Get_at HG.out _ _ (HI.out.keep hP.box.drew)).mono ?_; rintro e w3 ⟨rfl, hb3⟩; have hb13 : Below w1.heap.size w1 w3 := below_then (Below.refl _ _).drew hb3; have k0 := (hb13.cell (p := ⟨w.heap.size, 0, none⟩) hz).trans q0; have k1 := (hb13.cell (p := ⟨w.heap.size, 1, none⟩) hz).trans q1; have k2 := (hb13.cell (p := ⟨b, off + k, none⟩) hbz).trans d0; have hz3 := Nat.lt_of_lt_of_le hz hb13.size; have hbz3 := Nat.lt_of_lt_of_le hbz hb13.size)
              | (go_at_call 58; refine (Get_at HG.out _ _ (HI.out.keep (below_alloc hP.box.drew _))).mono ?_; rintro e w3 ⟨rfl, hb3⟩; have hb13 : Below w1.heap.size w1 w3 := below_then (below_alloc (Below.refl _ _).drew _) hb3; have k0 := (hb13.cell (p := ⟨w.heap.size, 0, none⟩) hz).trans q0; have k1 := (hb13.cell (p := ⟨w.heap.size, 1, none⟩) hz).trans q1; have k2 := (hb13.cell (p := ⟨b, off + k, none⟩) hbz).trans d0; have hz3 := Nat.lt_of_lt_of_le hz hb13.size; have hbz3 := Nat.lt_of_lt_of_le hbz hb13.size; (obtain ⟨e0, e1, e2, g0, g1, g2, hz4⟩ := blk3 hb3); (change w3.cell? ⟨w1.heap.size, 0, none⟩ = _ at e0); (change w3.cell? ⟨w1.heap.size, 1, none⟩ = _ at e1); (change w3.cell? ⟨w1.heap.size, 2, none⟩ = _ at e2); (change w3.frozen? ⟨w1.heap.size, 0, none⟩ = _ at g0); (change w3.frozen? ⟨w1.heap.size, 1, none⟩ = _ at g1); (change w3.frozen? ⟨w1.heap.size, 2, none⟩ = _ at g2); (change w1.heap.size < _ at hz4)))
          all_goals
            have hbw3 := below_then hP.box hb13
            go_wp2
            go_ret2
            refine ⟨ret_read HR.out, ?_⟩
            first
              | exact below_alloc hbw3 _
              | exact ((hbw3.setCell (p := ⟨w1.heap.size, 0, none⟩) (Nat.le_of_lt hz) _).setCell (p := ⟨w1.heap.size, 1, none⟩) (Nat.le_of_lt hz) _).setCell (p := ⟨w1.heap.size, 2, none⟩) (Nat.le_of_lt hz) _
    · have hi : exB n (V.blocks.length : Int) = false := by unfold exB; rw [decide_eq_false_iff_not]; omega
      have HIN := Lib.hid hi
      have hr : readOf V n = (⟨#[]⟩, 6) := by unfold readOf; rw [if_neg (by simp [hm]), if_pos hin]
      have HR := Lib.hid hr
      clear hr hm hi hin
      go_enter Try.func36, Try.ntmps36
      go_wp2_with (first
        | (go_at_call 56; refine (VCheck_any _ V _ (HV.out.keep ((Below.refl _ _).alloc (Nat.le_refl _) _)) HWZ.out).mono ?_; rw [HK.out]; rintro e w1 ⟨rfl, hb1⟩; have hP : Past2 w _ _ _ w1 := hb1; obtain ⟨q0, q1, f0, f1, hz⟩ := hP.cells)
        | (go_at_call 57; refine (exists_any _ _ _).mono ?_; rw [HIN.out]; rintro e w2 ⟨rfl, rfl⟩))
      go_ret2
      exact ⟨ret_read HR.out, hP.box⟩
end Go.Proofs.Ythjaanhkmfiajac
