/- WritesRead, walked. No condition but that the numbers are ints. -/
import Derived.Test.YtajjhjabehiikabDoorKeepApply
import Derived.Test.YtajjhjabehiikabDoorKeepReads
import Derived.Test.YtajjhjabehiikabDoorKeepEqual
namespace Go.Proofs.YtajjhjabehiikabDoor.writesRead
open Go Go.RowKit Go.Maps

theorem mapKept {P : Program} {k : TypeId} {R : Value → Option (DataW Unit × List MemPlace)} {w w' : World} {b n : Nat} {D : DataW Unit} (h : w.ownsMap P k R b n D) (hb : Below w.heap.size w w') : w'.ownsMap P k R b n D := by
  obtain ⟨es, clock, hg, rest⟩ := h
  exact ⟨es, clock, by rw [hb.block b (Array.getElem?_eq_some_iff.1 hg).1]; exact hg, rest⟩

set_option maxRecDepth 100000 in
set_option maxHeartbeats 1000000 in
theorem walk (v : Value) (L : List Rw) (u : Value) (L2 : List Rw) (w : World) (h : RawsAt w v L) (hok : ∀ r ∈ L, RwOk r) (h2 : RawsAt w u L2) (hok2 : ∀ r ∈ L2, RwOk r) :
    Calls Tryd.prog 5 #[v, u] w fun e w' => e = .returned (.bool true) ∧ Below w.heap.size w w' := by
  have HV := Lib.hid (Volume_at v L w h hok)
  have HR2 := Lib.hid h2
  have HK2 := Lib.hid hok2
  clear h hok h2 hok2
  go_enter Tryd.func5, Tryd.ntmps5
  go_upto_region 2 with (go_at_call 8; refine HV.out.mono ?_; rintro e w1 ⟨p, c, pz, cz, V, rfl, hat, hV, hb1⟩)
  obtain ⟨G5, hG5⟩ : ∃ G, w1.heap.size = G := ⟨_, rfl⟩
  obtain ⟨W1, hW1⟩ : ∃ W, W = w1.alloc (.cells #[.slice p V.items.length c, .slice pz V.blocks.length cz] 26) := ⟨_, rfl⟩
  have g0 : W1.cell? ⟨G5, 0, none⟩ = some (.slice p V.items.length c) := by subst hW1; subst hG5; simp
  have g1 : W1.cell? ⟨G5, 1, none⟩ = some (.slice pz V.blocks.length cz) := by subst hW1; subst hG5; simp
  have hbW1 : Below w.heap.size w W1 := by subst hW1; exact below_alloc hb1 _
  have hG1 : G5 < W1.heap.size := by subst hW1; subst hG5; simp
  have hat1 : VolAt W1 (.agg #[.slice p V.items.length c, .slice pz V.blocks.length cz]) V := by subst hW1; exact hat.keep (below_alloc (Below.refl _ _) _)
  rw [hG5, ← hW1]
  have HAT1 := Lib.hid hat1
  have HV16 := Lib.hid hV
  have hil := hV.items
  have hn16 := hV.n
  have HN16 := Lib.hid hn16
  clear hW1 hG5 hat hat1 hb1 HV hV
  go_upto_region 3 with (go_at_call 16; refine (Writes_at _ L2 _ (HR2.out.keep hbW1) HK2.out).mono ?_; rintro e w2 ⟨pw, cw, M, rfl, hwat, hWok, hb2⟩)
  obtain ⟨V2, hV2⟩ : ∃ V2, V2 = (applied V M).1 := ⟨_, rfl⟩
  have HV2 := Lib.hid hV2
  have e0 := (hb2.cell (p := ⟨G5, 0, none⟩) hG1).trans g0
  have e1 := (hb2.cell (p := ⟨G5, 1, none⟩) hG1).trans g1
  have hbW2 := below_then hbW1 hb2
  have hG2 := Nat.lt_of_lt_of_le hG1 hb2.size
  have HAT2 := Lib.hid (HAT1.out.keep hb2)
  have HWAT := Lib.hid hwat
  have HWOK : Hid (WOk M V.blocks.length) := (by rw [HN16.out]; exact hWok : WOk M V.blocks.length)
  have hml := hWok.len
  clear hV2 hwat hWok hb2 g0 g1 hG1 HAT1 HR2 hn16
  go_upto_region 4 with (go_at_call 17; refine (Apply_ok HV16.out.ok (by rw [HN16.out]; omega) HWOK.out HV2.out _ _ _ HAT2.out HWAT.out).mono ?_; rintro e w3 ⟨p3, c3, q3, d3, rfl, hat3, hb3⟩)
  obtain ⟨G7, hG7⟩ : ∃ G, w3.heap.size = G := ⟨_, rfl⟩
  obtain ⟨W3, hW3⟩ : ∃ W, W = w3.alloc (.cells #[.slice p3 V2.items.length c3, .slice q3 V2.blocks.length d3] 26) := ⟨_, rfl⟩
  have hok2 : VOk V2 ∧ V2.blocks.length = 16 := by
    rw [HV2.out]
    obtain ⟨_, h2, h3, _⟩ := apply_ok HV16.out.ok (by rw [HN16.out]; omega) HWOK.out
    exact ⟨h2, h3.trans HN16.out⟩
  have hov : ovr (rds V) M = rds V2 := by rw [HV2.out]; exact ovr_applied HV16.out.ok (by rw [HN16.out]; omega) HWOK.out
  have h70 : W3.cell? ⟨G7, 0, none⟩ = some (.slice p3 V2.items.length c3) := by subst hW3; subst hG7; simp
  have h71 : W3.cell? ⟨G7, 1, none⟩ = some (.slice q3 V2.blocks.length d3) := by subst hW3; subst hG7; simp
  have hb23 : Below w2.heap.size w2 W3 := by rw [hW3]; exact below_alloc hb3 _
  have hG37 : G7 < W3.heap.size := by subst hW3; subst hG7; simp
  have hat4 : VolAt W3 (.agg #[.slice p3 V2.items.length c3, .slice q3 V2.blocks.length d3]) V2 := by rw [hW3]; exact hat3.keep (below_alloc (Below.refl _ _) _)
  have e0' := (hb23.cell (p := ⟨G5, 0, none⟩) hG2).trans e0
  have e1' := (hb23.cell (p := ⟨G5, 1, none⟩) hG2).trans e1
  have hG53 := Nat.lt_of_lt_of_le hG2 hb23.size
  have hbW3 := below_then hbW2 hb23
  rw [hG7, ← hW3]
  have HAT5 := Lib.hid (HAT2.out.keep hb23)
  have HAT7 := Lib.hid hat4
  have HW3 := Lib.hid (HWAT.out.keep hb23)
  have HOK2 := Lib.hid hok2
  have HOV := Lib.hid hov
  have hrl : (rds V).length = 16 := by rw [rds_len, HN16.out]
  have HRL := Lib.hid hrl
  clear hW3 hG7 hat3 hat4 hb3 hb23 e0 e1 hG2 HAT2 HWAT hok2 hov hrl
  go_upto_region 7 with (go_at_call 18; refine (Reads_any _ V _ HAT5.out HV16.out.ok).mono ?_; rintro e w4 ⟨v9, rfl, ho9⟩; obtain ⟨g9, c9, rfl, hg9, hg9', _⟩ := ho9.shape (by rw [HRL.out]; omega); rw [HRL.out] at ho9 ⊢)
  have h70' := (ho9.below.cell (p := ⟨G7, 0, none⟩) hG37).trans h70
  have HO9 := Lib.hid ho9
  clear ho9 h70'
  go_wp2
  go_loopw [45] (fun i wr => ∃ k : Nat, k ≤ M.length ∧ i = .int .i64 (k : Int) ∧ OwnS W3.heap.size 9 (.slice (some ⟨g9, 0, none⟩) 16 c9) (ovr (rds V) (M.take k)) W3 wr) (fun i _ => M.length - (intOf i).toNat)
  case atStart => exact ⟨0, Nat.zero_le _, rfl, HO9.out⟩
  case round =>
    clear HO9 hg9'
    obtain ⟨k, hk, rfl, hown⟩ := hrel
    by_cases hlt : k < M.length
    · obtain ⟨x, hx⟩ : ∃ x, M[k]? = some x := ⟨M[k], List.getElem?_eq_getElem hlt⟩
      obtain ⟨m, hm⟩ : ∃ m : Nat, x.block = (m : Int) ∧ m < 16 := by
        have := HWOK.out.all x (List.mem_of_getElem? hx)
        rw [HN16.out] at this
        exact ⟨x.block.toNat, by omega, by omega⟩
      obtain ⟨hmb, hm16⟩ := hm
      obtain ⟨bw, offw, rfl, hbw, c0, c1⟩ : ∃ bw offw, pw = some ⟨bw, offw, none⟩ ∧ bw < W3.heap.size ∧ W3.cell? ⟨bw, offw + k * 2, none⟩ = some (.int .i64 (m : Int)) ∧ W3.cell? ⟨bw, offw + k * 2 + 1, none⟩ = some (.string x.data) := by
        obtain ⟨p1, c1, he, _, _, hc⟩ := HW3.out
        cases he
        obtain ⟨b, off, hp, hb, d0, d1⟩ := hc k x hx
        rw [hmb] at d0
        exact ⟨b, off, hp, hb, d0, d1⟩
      replace c0 := (hown.below.cell (p := ⟨bw, _, none⟩) hbw).trans c0
      replace c1 := (hown.below.cell (p := ⟨bw, _, none⟩) hbw).trans c1
      have hol : (ovr (rds V) (M.take k)).length = 16 := by rw [ovr_len, HRL.out]
      obtain ⟨s0, hs0⟩ : ∃ s0, (ovr (rds V) (M.take k))[m]? = some s0 := ⟨_, List.getElem?_eq_getElem (by omega)⟩
      obtain ⟨d0, df, _⟩ := (hown.alloc (.cells #[.int .i64 (m : Int), .string x.data] 48)).cell hs0
      have df' := df m
      have hsn := ovr_snoc hx (rds V)
      rw [show x.block.toNat = m by omega] at hsn
      have HSN := Lib.hid hsn
      have HOWN := Lib.hid ((OwnS.set hown (k := m) (by omega) x.data).alloc (.cells #[.int .i64 (m : Int), .string x.data] 48))
      have hg9w := (hown.1.lt g9 rfl).2
      have n1 : ¬ g9 = wr.heap.size := by omega
      have n2 : ¬ wr.heap.size = g9 := by omega
      have mi0 : (0 : Int) ≤ (m : Int) := by omega
      have mi1 : (m : Int) < 16 := by omega
      clear hx hmb hol hs0 df hsn hown
      go_wp2
      go_roundw
      case rel => exact ⟨k + 1, by omega, by go_num, by rw [HSN.out]; exact HOWN.out⟩
      case measure => simp [intOf]; omega
    · have hkm : k = M.length := by omega
      obtain ⟨W5, rfl⟩ : ∃ W5, W5 = wr := ⟨_, rfl⟩
      rw [hkm, List.take_length, HOV.out] at hown
      have HO9 := Lib.hid hown
      have hb39 := hown.below
      clear hkm hown
      have hmm : ∀ (w : World), (Instr.makeMap 49 none).run Tryd.prog w = .ok (.map (some w.heap.size)) (w.alloc (.map #[] 0)) := fun w => run_makeMap _ w
      go_wp2
      clear hmm
      go_loopw [59] (fun i wq => ∃ k : Nat, k ≤ 16 ∧ i = .int .i64 (k : Int) ∧ wq.ownsMap Tryd.prog 9 (plainElem (H := Unit) Tryd.prog 4) W5.heap.size k (smap (rds V2) k) ∧ Below W5.heap.size W5 wq) (fun i _ => 16 - (intOf i).toNat)
      case atStart => exact ⟨0, Nat.zero_le _, rfl, World.ownsMap_made _ _ _ _, (Below.refl _ _).alloc (Nat.le_refl _) _⟩
      case round =>
        obtain ⟨k, hk, rfl, hmap, hb⟩ := hrel
        have hg9w := (HO9.out.1.lt g9 rfl).2
        have hrl2 : (rds V2).length = 16 := by rw [rds_len, HOK2.out.2]
        by_cases hlt : k < 16
        · obtain ⟨d, hd⟩ : ∃ d, (rds V2)[k]? = some d := ⟨_, List.getElem?_eq_getElem (by omega)⟩
          have c0 := (HO9.out.cell hd).1
          replace c0 := (hb.cell (p := ⟨g9, _, none⟩) hg9w).trans c0
          have hds : d.size ≤ 48 := by
            obtain ⟨b, hb, rfl⟩ := rds_mem.1 (List.mem_of_getElem? hd)
            exact rd_size HOK2.out.1 b hb
          have hkey := Tryd.keyD (d := d) (by omega)
          by_cases h0 : 0 < d.size
          · have hstep := smap_succ hd h0
            have HST := Lib.hid hstep
            have ht := size_cons h0
            clear hstep hd hrl2
            go_wp2_with (at_mapUpdate; refine wpList_mapUpdate_own _ rfl _ _ _ 49 rfl 9 4 Tryd.keyS Tryd.underlying49 (plainElem (H := Unit) Tryd.prog 4) W5.heap.size k _ rfl hmap (by unfold maxLen; omega) _ _ _ rfl rfl hkey _ [] (plainElem_bool Tryd.underlying4 true) ?_; intro w6 hown6 hgrow6)
            go_roundw
            case rel => exact ⟨k + 1, by omega, by go_num, HST.out.symm ▸ hown6, hb.grown hgrow6 hb.size (fun j hj => by cases hj; exact Nat.le_refl _)⟩
            case measure => simp [intOf]; omega
          · have hstep := smap_skip hd h0
            have HST := Lib.hid hstep
            have ht := size_nil h0
            clear hstep hd hrl2
            go_wp2
            go_roundw
            case rel => exact ⟨k + 1, by omega, by go_num, HST.out.symm ▸ hmap.mono (Nat.le_succ k), hb⟩
            case measure => simp [intOf]; omega
        · have hk16 : k = (rds V2).length := by omega
          have hsz := smap_items HOK2.out.1
          rw [hk16] at hmap
          have HMAP : Hid (World.ownsMap wr Tryd.prog 9 (plainElem (H := Unit) Tryd.prog 4) W5.heap.size (rds V2).length (smap (rds V2) (rds V2).length)) := hmap
          have HSZ := Lib.hid hsz
          have hb3q := hb39.trans (hb.mono hb39.size)
          have i0 := (hb3q.cell (p := ⟨G7, 0, none⟩) hG37).trans h70
          have i1 := (hb3q.cell (p := ⟨G7, 1, none⟩) hG37).trans h71
          have hGq := Nat.lt_of_lt_of_le hG37 hb3q.size
          have HAT9 := Lib.hid (HAT7.out.keep hb3q)
          have hs9 : StrsAt W5 (.slice (some ⟨g9, 0, none⟩) 16 c9) (rds V2) := OwnS.ints HO9.out (by omega)
          have HS9 := Lib.hid (hs9.keep hb)
          have hbm := hmap.lt
          have HRL2 := Lib.hid hrl2
          clear hmap hsz hk16 hk hs9 hrl2
          go_wp2_with (first
            | (go_at_call 18; refine (Reads_any _ V2 _ HAT9.out HOK2.out.1).mono ?_; rintro e w8 ⟨v8, rfl, ho8⟩; obtain ⟨g8, c8, rfl, _, _, _⟩ := ho8.shape (by have := HRL2.out; omega); have hb8 := ho8.below; have HS8 := Lib.hid (OwnS.ints ho8 (by have := HRL2.out; omega)); have i0' := (hb8.cell (p := ⟨G7, 0, none⟩) hGq).trans i0; have i1' := (hb8.cell (p := ⟨G7, 1, none⟩) hGq).trans i1; have hG8 := Nat.lt_of_lt_of_le hGq hb8.size; clear ho8)
            | (go_at_call 19; refine (EqualS_any _ _ (rds V2) _ HS8.out (HS9.out.keep hb8)).mono ?_; rintro e w9 ⟨rfl, hb9⟩; have i0'' := (hb9.cell (p := ⟨G7, 0, none⟩) hG8).trans i0'; have i1'' := (hb9.cell (p := ⟨G7, 1, none⟩) hG8).trans i1'; have hG9 := Nat.lt_of_lt_of_le hG8 hb9.size)
            | (go_at_call 20; refine (VCheck_ok HOK2.out.1 _ _ (HAT9.out.keep (below_then hb8 hb9))).mono ?_; rintro e w10 ⟨rfl, hb10⟩; have j0 := (hb10.cell (p := ⟨G7, 0, none⟩) hG9).trans i0''; have hlen : ∀ ty, (Builtin.len_ #[49] ty #[.map (some W5.heap.size)]).run Tryd.prog w10 = .ok (.int .i64 (V2.items.length : Int)) w10 := (fun ty => by rw [World.ownsMap.len (mapKept HMAP.out (below_then (below_then hb8 hb9) hb10)) Tryd.underlying49 ty, HSZ.out])))
          go_ret
          exact ⟨rfl, below_then (below_then (below_then (below_then hbW3 hb3q) hb8) hb9) hb10⟩
end Go.Proofs.YtajjhjabehiikabDoor.writesRead
