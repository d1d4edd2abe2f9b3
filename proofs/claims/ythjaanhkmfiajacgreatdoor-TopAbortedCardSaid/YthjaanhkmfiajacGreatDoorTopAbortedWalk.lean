/- TopAborted, walked. No condition but that the numbers are ints. -/
import Derived.Test.YthjaanhkmfiajacGreatDoorTopBase
import Derived.Test.YthjaanhkmfiajacGreatDoorKeepConcat
namespace Go.Proofs.YthjaanhkmfiajacGreatDoor.topAborted
open Go Go.RowKit

theorem aborted_reads (B M : List EM.Act) (h : ∀ a ∈ M, a.kind = 2 ∨ a.kind = 3) : reads8 [B, [EM.act 1], M, [EM.act 5]].flatten = reads8 B := by
  have e : [B, [EM.act 1], M, [EM.act 5]].flatten = B ++ (EM.act 1 :: (M ++ [EM.act 5])) := by simp
  rw [e]
  unfold reads8
  rw [run_append]
  exact congrArg rds (EM.aborted _ M h)

set_option maxRecDepth 100000 in
set_option maxHeartbeats 2000000 in
theorem walk (v : Value) (L : List Rw) (u : Value) (K : List Rw) (w : World) (h : RawsAt w v L) (hok : ∀ r ∈ L, RwOk r) (h2 : RawsAt w u K) (hok2 : ∀ r ∈ K, RwOk r) :
    Calls Tryz.prog 8 #[v, u] w fun e w' => e = .returned (.bool true) ∧ Below w.heap.size w w' := by
  obtain ⟨i0, hi, hz0, hz1, hz2⟩ := info_parts infoAct
  have hA : Calls Tryz.prog 12 #[v, .int .i64 40] w (ActsRet 40 w) := Acts_any v L 40 (by omega) w h hok
  have hA2 : ∀ w', Below w.heap.size w w' → Calls Tryz.prog 12 #[u, .int .i64 20] w' (ActsRet 20 w') := fun w' hb => Acts_any u K 20 (by omega) w' (h2.keep hb) hok2
  have HA := Lib.hid hA
  have HA2 := Lib.hid hA2
  clear h hok hA h2 hok2 hA2
  go_enter Tryz.func8, Tryz.ntmps8
  go_upto_region 2 with (first
    | (go_at_call 12; refine HA.out.mono ?_; rintro e w1 ⟨v1, A, rfl, ho1, hl1, hg1⟩; obtain ⟨p1, c1, rfl⟩ := ho1.isSlice; have HO1 := Lib.hid ho1; have HG := Lib.hid hg1; clear ho1 hg1)
    | (at_builtin; refine wpList_own_r actE rfl (.tmp 14) (.tmp 16) 23 rfl _ 36 i0 _ 40 Tryz.underlying23 hi hz0 rfl hz1 hz2 _ A rfl w _ (EM.act 5) _ rfl HO1.out _ rfl (by simp) (by omega) (by omega) ?_; intro v3 w3 ho3 hg3; clear hg3 HO1))
  have hbok : ∀ a ∈ A ++ [EM.act 5], ActOk a := ActOk.append HG.out (by simpa using kind_ok (by omega))
  have hbl : (A ++ [EM.act 5]).length ≤ 41 := by simp; omega
  have hb1 : 1 ≤ (A ++ [EM.act 5]).length := by simp
  generalize A ++ [EM.act 5] = B at ho3 hbok hbl hb1 ⊢
  obtain ⟨p3, c3, rfl⟩ := ho3.isSlice
  have hb3 : Below w.heap.size w w3 := ho3.below
  have HRB3 := Lib.hid (ho3.rows actE (by omega))
  have HBOK := Lib.hid hbok
  have HB1 := Lib.hid hb1
  clear ho3 hbok hb1 HA HG hl1
  go_wp2_with (go_at_call 12; refine (HA2.out _ hb3).mono ?_; rintro e w4 ⟨v4, M, rfl, ho4, hl4, hg4⟩; obtain ⟨p4, c4, rfl⟩ := ho4.isSlice; have hb34 : Below w3.heap.size w3 w4 := ho4.below; have HM := Lib.hid (ho4.rows actE (by omega)); have HGM := Lib.hid hg4; clear ho4 hg4)
  have HRB4 := Lib.hid (HRB3.out.keep hb34)
  have hb4 := below_then hb3 hb34
  clear HRB3 hb34 hb3 HA2
  obtain ⟨pM, cM, hMv, _, _, hMc⟩ := HM.out
  have HMC := Lib.hid hMc
  clear hMc
  go_loopw [6, 21] (fun mo i wr => ∃ (k : Nat) (X : List EM.Act), k ≤ M.length ∧ i = .int .i64 (k : Int) ∧ X.length ≤ k ∧ Hid (∀ a ∈ X, ActOk a ∧ (a.kind = 2 ∨ a.kind = 3)) ∧ OwnActs w4.heap.size mo X w4 wr) (fun _ i _ => M.length - (intOf i).toNat)
  case atStart => exact ⟨0, [], Nat.zero_le _, rfl, by simp, Lib.hid (by simp), OwnR.nil (Below.refl _ _) (Nat.le_refl _)⟩
  case round =>
    obtain ⟨k, X, hk, rfl, hX, HX, hown⟩ := hrel
    obtain ⟨pX, cX, rfl⟩ := hown.isSlice
    have HOWN := Lib.hid hown
    have hbr : Below w4.heap.size w4 wr := hown.below
    clear hown
    by_cases hlt : k < M.length
    · obtain ⟨x, hx⟩ : ∃ x, M[k]? = some x := ⟨M[k], List.getElem?_eq_getElem hlt⟩
      obtain ⟨b, off, hpm, hbl', h0⟩ := HMC.out k x hx
      cases hMv
      subst hpm
      have c0 := (hbr.cell (p := ⟨b, off + k * 4 + 0, none⟩) hbl').trans (h0 0 (by decide))
      have c1 := (hbr.cell (p := ⟨b, off + k * 4 + 1, none⟩) hbl').trans (h0 1 (by decide))
      have c2 := (hbr.cell (p := ⟨b, off + k * 4 + 2, none⟩) hbl').trans (h0 2 (by decide))
      have c3' := (hbr.cell (p := ⟨b, off + k * 4 + 3, none⟩) hbl').trans (h0 3 (by decide))
      simp only [actC, List.getElem?_cons_zero, List.getElem?_cons_succ, Nat.add_zero] at c0 c1 c2 c3'
      have hxg := HGM.out x (List.mem_of_getElem? hx)
      have HXG := Lib.hid hxg
      clear hx h0 hxg
      have hcs : x.kind = 2 ∨ x.kind = 3 ∨ (¬ x.kind = 2 ∧ ¬ x.kind = 3) := by omega
      rcases hcs with hc | hc | ⟨hc, hc'⟩
      · have t2 : (x.kind == 2) = true := by simpa using hc
        have HC2 := Lib.hid hc
        clear hc
        go_wp2_with (at_builtin; refine wpList_own_r actE rfl (.tmp 33) (.tmp 35) 23 rfl _ 36 i0 _ 40 Tryz.underlying23 hi hz0 rfl hz1 hz2 _ X rfl w4 _ x _ rfl (HOWN.out.alloc _) _ rfl (by simp) (by omega) (by omega) ?_; intro v5 w5 ho5 hg5)
        go_roundw
        case rel =>
          refine ⟨k + 1, _, by omega, by go_num, by simp; omega, Lib.hid ?_, ho5⟩
          intro a ha
          rcases List.mem_append.1 ha with ha | ha
          · exact HX.out a ha
          · rw [List.mem_singleton.1 ha]
            exact ⟨HXG.out.ok, .inl HC2.out⟩
        case measure => simp [intOf]; omega
      · have t2 : (x.kind == 2) = false := by simp [hc]
        have t3 : (x.kind == 3) = true := by simpa using hc
        have HC2 := Lib.hid hc
        clear hc
        go_wp2_with (at_builtin; refine wpList_own_r actE rfl (.tmp 33) (.tmp 35) 23 rfl _ 36 i0 _ 40 Tryz.underlying23 hi hz0 rfl hz1 hz2 _ X rfl w4 _ x _ rfl (HOWN.out.alloc _) _ rfl (by simp) (by omega) (by omega) ?_; intro v5 w5 ho5 hg5)
        go_roundw
        case rel =>
          refine ⟨k + 1, _, by omega, by go_num, by simp; omega, Lib.hid ?_, ho5⟩
          intro a ha
          rcases List.mem_append.1 ha with ha | ha
          · exact HX.out a ha
          · rw [List.mem_singleton.1 ha]
            exact ⟨HXG.out.ok, .inr HC2.out⟩
        case measure => simp [intOf]; omega
      · have t2 : (x.kind == 2) = false := by simpa using hc
        have t3 : (x.kind == 3) = false := by simpa using hc'
        clear hc hc'
        go_wp2
        go_roundw
        case rel => exact ⟨k + 1, X, by omega, by go_num, by omega, HX, HOWN.out.alloc _⟩
        case measure => simp [intOf]; omega
    · have hb5 := below_then hb4 hbr
      have HRB5 := Lib.hid (HRB4.out.keep hbr)
      have HRX5 := Lib.hid (HOWN.out.rows actE (by omega))
      have hX20 : X.length ≤ 20 := by omega
      have hrd := aborted_reads B X (fun a ha => (HX.out a ha).2)
      have HRD := Lib.hid hrd
      clear HOWN HRB4 HM HMC hbr hb4 hrd
      go_upto_region 10 with (go_at_call 26; refine (reads_at _ B (by omega) HBOK.out _ HRB5.out).mono ?_; rintro e w6 ⟨v6, rfl, hs6, hb56⟩)
      have hb6 := below_then hb5 hb56
      have HRB6 := Lib.hid (HRB5.out.keep hb56)
      have HRX6 := Lib.hid (HRX5.out.keep hb56)
      have HS6 := Lib.hid hs6
      clear hs6 hb56 HRB5 HRX5 hb5
      have hcr := acts4 (w := (w6.alloc (.cells #[.int .i64 1, .int .i64 0, .string ⟨#[]⟩, .int .i64 0] 36)).alloc (.cells #[.int .i64 5, .int .i64 0, .string ⟨#[]⟩, .int .i64 0] 36))
        (s0 := ⟨p3, B.length, c3⟩) (s1 := ⟨some ⟨w6.heap.size, 0, none⟩, 1, 1⟩) (s2 := ⟨pX, X.length, cX⟩) (s3 := ⟨some ⟨w6.heap.size + 1, 0, none⟩, 1, 1⟩) (A0 := B) (A1 := [EM.act 1]) (A2 := X) (A3 := [EM.act 5])
        (HRB6.out.keep (below_alloc (below_alloc (Below.refl _ _) _) _))
        ((rows_new_at actE [EM.act 1] 1 rfl (by decide) w6 36 _ rfl _ rfl).keep (below_alloc (Below.refl _ _) _))
        (HRX6.out.keep (below_alloc (below_alloc (Below.refl _ _) _) _))
        (rows_new_at actE [EM.act 5] 1 rfl (by decide) _ 36 _ rfl _ (by simp))
      have hfl : [B, [EM.act 1], X, [EM.act 5]].flatten.length = B.length + X.length + 2 := by simp; omega
      have hfo : ∀ a ∈ [B, [EM.act 1], X, [EM.act 5]].flatten, ActOk a := by
        intro a ha
        simp only [List.flatten_cons, List.flatten_nil, List.append_nil, List.mem_append, List.mem_singleton] at ha
        rcases ha with ha | rfl | ha | rfl
        · exact HBOK.out a ha
        · exact kind_ok (by omega)
        · exact (HX.out a ha).1
        · exact kind_ok (by omega)
      have HCR := Lib.hid hcr
      have HFL := Lib.hid hfl
      have HFO := Lib.hid hfo
      clear hcr hfl hfo
      go_upto_region 11 with (first
        | (go_at_call 27; refine (concat_of [⟨p3, B.length, c3⟩, ⟨some ⟨w6.heap.size, 0, none⟩, 1, 1⟩, ⟨pX, X.length, cX⟩, ⟨some ⟨w6.heap.size + 1, 0, none⟩, 1, 1⟩] [B, [EM.act 1], X, [EM.act 5]] _ rfl (by simp) HCR.out (by rw [HFL.out]; omega) (by rw [HFL.out]; omega) _ _ rfl _ _ (by simp) rfl).mono ?_; rintro e w7 ⟨v7, rfl, ho7⟩; have HO7 := Lib.hid ho7; clear ho7)
        | (go_at_call 26; refine (reads_at _ [B, [EM.act 1], X, [EM.act 5]].flatten (by rw [HFL.out]; omega) HFO.out _ (HO7.out.rows actE (by rw [HFL.out]; omega))).mono ?_; rintro e w8 ⟨v8, rfl, hs8, hb78⟩))
      rw [HRD.out] at hs8
      have hb67 := HO7.out.below
      have hb68 : Below w6.heap.size w6 w8 := below_then (below_then (below_alloc (below_alloc (Below.refl _ _) _) _) hb67) hb78
      have hb8 := below_then hb6 hb68
      have HS8 := Lib.hid hs8
      have HS68 := Lib.hid (HS6.out.keep hb68)
      clear hs8 HS6 hb68 hb67 hb78 HO7 HCR HRB6 HRX6
      go_wp2_with (go_at_call 24; refine (EqualS_any _ _ (reads8 B) _ HS68.out HS8.out).mono ?_; rintro e w9 ⟨rfl, hb9⟩)
      go_ret
      exact ⟨rfl, below_then hb8 hb9⟩
end Go.Proofs.YthjaanhkmfiajacGreatDoor.topAborted
