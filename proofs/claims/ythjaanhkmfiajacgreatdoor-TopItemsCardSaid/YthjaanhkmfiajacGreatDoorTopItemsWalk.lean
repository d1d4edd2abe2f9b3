/- TopItems, walked. No condition but that the numbers are ints. -/
import Derived.Test.YthjaanhkmfiajacGreatDoorTopBase
namespace Go.Proofs.YthjaanhkmfiajacGreatDoor.topItems
open Go Go.RowKit Go.Maps

theorem mapKept {P : Program} {k : TypeId} {R : Value → Option (DataW Unit × List MemPlace)} {w w' : World} {b n : Nat} {D : DataW Unit} (h : w.ownsMap P k R b n D) (hb : Below w.heap.size w w') : w'.ownsMap P k R b n D := by
  obtain ⟨es, clock, hg, rest⟩ := h
  exact ⟨es, clock, by rw [hb.block b (Array.getElem?_eq_some_iff.1 hg).1]; exact hg, rest⟩

set_option maxRecDepth 100000 in
set_option maxHeartbeats 2000000 in
theorem walk (v : Value) (L : List Rw) (w : World) (h : RawsAt w v L) (hok : ∀ r ∈ L, RwOk r) :
    Calls Tryz.prog 10 #[v] w fun e w' => e = .returned (.bool true) ∧ Below w.heap.size w w' := by
  obtain ⟨i0, hi, hz0, hz1, hz2⟩ := info_parts infoAct
  have hA : Calls Tryz.prog 12 #[v, .int .i64 60] w (ActsRet 60 w) := Acts_any v L 60 (by omega) w h hok
  have HA := Lib.hid hA
  clear h hok hA
  go_enter Tryz.func10, Tryz.ntmps10
  go_upto_region 2 with (go_at_call 12; refine HA.out.mono ?_; rintro e w1 ⟨v1, A, rfl, ho1, hl1, hg1⟩; obtain ⟨p1, c1, rfl⟩ := ho1.isSlice)
  have hra1 := ho1.rows actE (by omega)
  have hb1 : Below w.heap.size w w1 := ho1.below
  have HG := Lib.hid hg1
  have HRA1 := Lib.hid hra1
  clear ho1 hg1 hra1 HA
  go_upto_region 3 with (first
    | (go_at_call 15; refine (CloneA_any _ A _ HRA1.out (by omega)).mono ?_; rintro e w7 ⟨v7, rfl, ho7⟩; obtain ⟨p7, c7, rfl⟩ := ho7.isSlice; have HO7 := Lib.hid ho7; clear ho7)
    | (at_builtin; refine wpList_own_r actE rfl (.tmp 14) (.tmp 16) 23 rfl _ 36 i0 _ 40 Tryz.underlying23 hi hz0 rfl hz1 hz2 _ A rfl w1 _ (EM.act 9) _ rfl HO7.out _ rfl (by simp) (by omega) (by omega) ?_; intro v9 w9 ho9 hg9; have HO9 := Lib.hid ho9; clear ho9 hg9 HO7)
    | (go_at_call 21; refine (run_at _ (A ++ [EM.act 9]) (by simp; omega) (ActOk.append HG.out (by simpa using kind_ok (by omega))) _ (HO9.out.rows actE (by simp; omega))).mono ?_; rintro e w10 ⟨v10, x10, y10, rfl, ha10, hv10, hb910⟩; obtain ⟨px, cx, qx, dx, rfl, rfl⟩ := hv10.slices; obtain ⟨z, hz, hzi⟩ := stat_items A; obtain ⟨bz, oz, cz, rfl, hbz, _, _, z0, _, _⟩ := ans_cells ha10 hz; rw [EM.runL_len, List.length_append]))
  have hiv := (inv8 (A ++ [EM.act 9])).now
  rw [hzi] at z0
  generalize (EM.runL (EM.start 8) (A ++ [EM.act 9])).1.now = V at hiv hv10 z0 ⊢
  obtain ⟨W11, hW11⟩ : ∃ W, W = w10.alloc (.cells #[.slice px V.items.length cx, .slice qx V.blocks.length dx] 30) := ⟨_, rfl⟩
  obtain ⟨G5, hG5⟩ : ∃ G, G = w10.heap.size := ⟨_, rfl⟩
  have hal : Below w10.heap.size w10 W11 := by rw [hW11]; exact below_alloc (Below.refl _ _) _
  have hbx : VBox W11 G5 (.slice px V.items.length cx) (.slice qx V.blocks.length dx) := by rw [hW11, hG5]; exact VBox.new _ _ _
  have hb111 : Below w1.heap.size w1 W11 := below_then (below_then HO9.out.below hb910) hal
  have hb11 := below_then hb1 hb111
  have z1 := (hal.cell (p := ⟨bz, _, none⟩) hbz).trans z0
  have hbz1 := Nat.lt_of_lt_of_le hbz hal.size
  obtain ⟨W12, hW12⟩ : ∃ W, W = W11.alloc (.map #[] 0) := ⟨_, rfl⟩
  have hal2 : Below W11.heap.size W11 W12 := by rw [hW12]; exact below_alloc (Below.refl _ _) _
  have hM12 : W11.heap.size < W12.heap.size := by rw [hW12]; simp
  have hmap0 : W12.ownsMap Tryz.prog 9 (plainElem (H := Unit) Tryz.prog 4) W11.heap.size 0 (smap (rds V) 0) := by rw [hW12]; exact World.ownsMap_made _ _ _ _
  obtain ⟨M7, hM7⟩ : ∃ M, M = W11.heap.size := ⟨_, rfl⟩
  have HV12 := Lib.hid ((hv10.keep hal).keep hal2)
  have hbx2 := hbx.keep hal2
  obtain ⟨k0, k1, _, _⟩ := hbx.at
  have hGl1 := hbx.lt
  have HAL2 := Lib.hid hal2
  obtain ⟨g0, g1, _, _⟩ := hbx2.at
  have hGl := hbx2.lt
  have HIV := Lib.hid hiv
  rw [← hW11, ← hG5]
  rw [← hM7] at hmap0
  have hmm : ∀ (w : World), (Instr.makeMap 63 none).run Tryz.prog w = .ok (.map (some w.heap.size)) (w.alloc (.map #[] 0)) := fun w => run_makeMap _ w
  have HMAP0 := Lib.hid hmap0
  have HW12 := Lib.hid hW12
  have HM7 := Lib.hid hM7
  clear hz hzi ha10 hv10 z0 hbz hal hb111 hb1 HRA1 HO9 hb910 hW11 hG5 hiv hbx hbx2 hal2 hmap0 hW12 hM7
  go_upto_region 6 with (fail)
  clear hmm
  rw [← HW12.out, ← HM7.out]
  go_wp2_with (go_at_call 25; refine (Reads_any _ V _ HV12.out.at HIV.out.1).mono ?_; rintro e w13 ⟨v13, rfl, ho13⟩; obtain ⟨g9, c9, rfl, hg9, _, _⟩ := ho13.shape (by rw [rds_len, HIV.out.2]; omega); rw [rds_len, HIV.out.2] at ho13 ⊢; have HO13 := Lib.hid ho13; clear ho13)
  have hb13 : Below W12.heap.size W12 w13 := HO13.out.below
  have h0 : OwnS W12.heap.size 9 (.slice (some ⟨g9, 0, none⟩) 8 c9) (rds V) w13 w13 := ⟨HO13.out.1, Below.refl _ _, hb13.size⟩
  have hmap := mapKept HMAP0.out hb13
  have hb113 : Below W11.heap.size W11 w13 := HAL2.out.trans (hb13.mono (Nat.le_of_lt hM12))
  have HM := Lib.hid hmap
  have H0 := Lib.hid h0
  have HB13 := Lib.hid hb113
  have HZ1 := Lib.hid z1
  have HK0 := Lib.hid k0
  have HK1 := Lib.hid k1
  clear h0 hmap hb113 z1 k0 k1 hb13 HO13 HMAP0 g0 g1
  go_loopw [28] (fun i wq => ∃ k : Nat, k ≤ 8 ∧ i = .int .i64 (k : Int) ∧ wq.ownsMap Tryz.prog 9 (plainElem (H := Unit) Tryz.prog 4) M7 k (smap (rds V) k) ∧ OwnS W12.heap.size 9 (.slice (some ⟨g9, 0, none⟩) 8 c9) (rds V) wq wq ∧ Below W11.heap.size W11 wq) (fun i _ => 8 - (intOf i).toNat)
  case atStart => exact ⟨0, Nat.zero_le _, rfl, HM.out, H0.out, HB13.out⟩
  case round =>
    clear HM H0 HB13
    obtain ⟨k, hk, rfl, hmap, hown, hb⟩ := hrel
    have hrl2 : (rds V).length = 8 := by rw [rds_len, HIV.out.2]
    by_cases hlt : k < 8
    · obtain ⟨d, hd⟩ : ∃ d, (rds V)[k]? = some d := ⟨_, List.getElem?_eq_getElem (by omega)⟩
      have c0 := (hown.cell hd).1
      have hds : d.size ≤ 48 := by
        obtain ⟨b, hb, rfl⟩ := rds_mem.1 (List.mem_of_getElem? hd)
        exact rd_size HIV.out.1 b hb
      have hkey := Tryz.keyD (d := d) (by omega)
      have HOWN := Lib.hid hown
      by_cases h0 : 0 < d.size
      · have hstep := smap_succ hd h0
        have HST := Lib.hid hstep
        have ht := size_cons h0
        clear hstep hd hrl2 hown
        go_wp2_with (at_mapUpdate; refine wpList_mapUpdate_own _ rfl _ _ _ 63 rfl 9 4 Tryz.keyS Tryz.underlying63 (plainElem (H := Unit) Tryz.prog 4) M7 k _ rfl hmap (by unfold maxLen; omega) _ _ _ rfl rfl hkey _ [] (plainElem_bool Tryz.underlying4 true) ?_; intro w6 hown6 hgrow6)
        go_roundw
        case rel =>
          refine ⟨k + 1, by omega, by go_num, HST.out.symm ▸ hown6, ?_, hb.grown hgrow6 hb.size (fun j hj => by cases hj; rw [HM7.out]; exact Nat.le_refl _)⟩
          exact ⟨HOWN.out.1.kept hgrow6 (.inr (fun e => by simp [Value.ownBlock] at e; have := HM7.out; omega)), Below.refl _ _, Nat.le_trans HOWN.out.2.2 hgrow6.size⟩
        case measure => simp [intOf]; omega
      · have hstep := smap_skip hd h0
        have HST := Lib.hid hstep
        have ht := size_nil h0
        clear hstep hd hrl2 hown
        go_wp2
        go_roundw
        case rel => exact ⟨k + 1, by omega, by go_num, HST.out.symm ▸ hmap.mono (Nat.le_succ k), HOWN.out, hb⟩
        case measure => simp [intOf]; omega
    · have hk8 : k = (rds V).length := by omega
      have hsz := smap_items HIV.out.1
      rw [hk8] at hmap
      have hlen : ∀ ty n, (Builtin.len_ #[63] ty #[.map (some M7)]).run Tryz.prog (wr.drewN n) = .ok (.int .i64 (V.items.length : Int)) (wr.drewN n) := (fun ty n => by rw [World.ownsMap.len (mapKept hmap (below_dr (Below.refl _ _) n)) Tryz.underlying63 ty, hsz])
      have z3 := (hb.cell (p := ⟨bz, _, none⟩) hbz1).trans HZ1.out
      have k3 := (hb.cell (p := ⟨G5, 0, none⟩) hGl1).trans HK0.out
      have hj0 : (0 : Int) ≤ (A.length : Int) := by omega
      have hj1 : (A.length : Int) < (A.length : Int) + 1 := by omega
      have HB := Lib.hid (below_then hb11 hb)
      clear hmap hsz hk8 hk hrl2 hown
      go_wp2
      go_quiet (fail)
      go_wp2
      go_ret
      exact ⟨rfl, below_dr HB.out _⟩
end Go.Proofs.YthjaanhkmfiajacGreatDoor.topItems
