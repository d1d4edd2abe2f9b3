/- WritesUndone, walked. No condition but that the numbers are ints. -/
import Derived.Test.YtajjhjabehiikabDoorKeepClone
import Derived.Test.YtajjhjabehiikabDoorUndoMath
import Derived.Test.YtajjhjabehiikabDoorKeepReads
import Derived.Test.YtajjhjabehiikabDoorKeepEqual
namespace Go.Proofs.YtajjhjabehiikabDoor.writesUndone
open Go Go.RowKit

set_option maxRecDepth 100000 in
set_option maxHeartbeats 1000000 in
theorem walk (v : Value) (L : List Rw) (u : Value) (L2 : List Rw) (w : World) (h : RawsAt w v L) (hok : ∀ r ∈ L, RwOk r) (h2 : RawsAt w u L2) (hok2 : ∀ r ∈ L2, RwOk r) :
    Calls Tryd.prog 6 #[v, u] w fun e w' => e = .returned (.bool true) ∧ Below w.heap.size w w' := by
  have HV := Lib.hid (Volume_at v L w h hok)
  have HR2 := Lib.hid h2
  have HK2 := Lib.hid hok2
  clear h hok h2 hok2
  go_enter Tryd.func6, Tryd.ntmps6
  go_upto_region 2 with (go_at_call 8; refine HV.out.mono ?_; rintro e w1 ⟨p, c, pz, cz, V, rfl, hat, hV, hb1⟩)
  obtain ⟨G5, hG5⟩ : ∃ G, w1.heap.size = G := ⟨_, rfl⟩
  obtain ⟨W1, hW1⟩ : ∃ W, W = w1.alloc (.cells #[.slice p V.items.length c, .slice pz V.blocks.length cz] 26) := ⟨_, rfl⟩
  have g0 : W1.cell? ⟨G5, 0, none⟩ = some (.slice p V.items.length c) := by subst hW1; subst hG5; simp
  have g1 : W1.cell? ⟨G5, 1, none⟩ = some (.slice pz V.blocks.length cz) := by subst hW1; subst hG5; simp
  have hbW1 : Below w.heap.size w W1 := by subst hW1; exact below_alloc hb1 _
  have hG1 : G5 < W1.heap.size := by subst hW1; subst hG5; simp
  have hat1 : VolAt W1 (.agg #[.slice p V.items.length c, .slice pz V.blocks.length cz]) V := by subst hW1; exact hat.keep (below_alloc (Below.refl _ _) _)
  rw [hG5, ← hW1]
  have HAT1 := Lib.hid hat1
  have HV16 := Lib.hid hV
  have hil := hV.items
  have hn16 := hV.n
  have HN16 := Lib.hid hn16
  clear hW1 hG5 hat hat1 hb1 HV hV
  go_upto_region 3 with (go_at_call 16; refine (Writes_at3 _ L2 _ (HR2.out.keep hbW1) HK2.out).mono ?_; rintro e w2 ⟨pw, cw, M, rfl, hwat, hWok, hsh, hb2⟩)
  obtain ⟨V2, hV2⟩ : ∃ V2, V2 = (applied V M).1 := ⟨_, rfl⟩
  have HV2 := Lib.hid hV2
  have e0 := (hb2.cell (p := ⟨G5, 0, none⟩) hG1).trans g0
  have e1 := (hb2.cell (p := ⟨G5, 1, none⟩) hG1).trans g1
  have hbW2 := below_then hbW1 hb2
  have hG2 := Nat.lt_of_lt_of_le hG1 hb2.size
  have HAT2 := Lib.hid (HAT1.out.keep hb2)
  have HWAT := Lib.hid hwat
  have HWOK : Hid (WOk M V.blocks.length) := (by rw [HN16.out]; exact hWok : WOk M V.blocks.length)
  have hml := hWok.len
  clear hV2 hwat hWok hb2 g0 g1 hG1 HAT1 HR2 hn16
  go_upto_region 4 with (go_at_call 17; refine (Apply_ok HV16.out.ok (by rw [HN16.out]; omega) HWOK.out HV2.out _ _ _ HAT2.out HWAT.out).mono ?_; rintro e w3 ⟨p3, c3, q3, d3, rfl, hat3, hb3⟩)
  obtain ⟨G7, hG7⟩ : ∃ G, w3.heap.size = G := ⟨_, rfl⟩
  obtain ⟨W3, hW3⟩ : ∃ W, W = w3.alloc (.cells #[.slice p3 V2.items.length c3, .slice q3 V2.blocks.length d3] 26) := ⟨_, rfl⟩
  have hok2 : VOk V2 ∧ V2.blocks.length = 16 := by
    rw [HV2.out]
    obtain ⟨_, h2, h3, _⟩ := apply_ok HV16.out.ok (by rw [HN16.out]; omega) HWOK.out
    exact ⟨h2, h3.trans HN16.out⟩
  have hov : ovr (rds V) M = rds V2 := by rw [HV2.out]; exact ovr_applied HV16.out.ok (by rw [HN16.out]; omega) HWOK.out
  have h70 : W3.cell? ⟨G7, 0, none⟩ = some (.slice p3 V2.items.length c3) := by subst hW3; subst hG7; simp
  have h71 : W3.cell? ⟨G7, 1, none⟩ = some (.slice q3 V2.blocks.length d3) := by subst hW3; subst hG7; simp
  have hb23 : Below w2.heap.size w2 W3 := by rw [hW3]; exact below_alloc hb3 _
  have hG37 : G7 < W3.heap.size := by subst hW3; subst hG7; simp
  have hat4 : VolAt W3 (.agg #[.slice p3 V2.items.length c3, .slice q3 V2.blocks.length d3]) V2 := by rw [hW3]; exact hat3.keep (below_alloc (Below.refl _ _) _)
  have e0' := (hb23.cell (p := ⟨G5, 0, none⟩) hG2).trans e0
  have e1' := (hb23.cell (p := ⟨G5, 1, none⟩) hG2).trans e1
  have hG53 := Nat.lt_of_lt_of_le hG2 hb23.size
  have hbW3 := below_then hbW2 hb23
  rw [hG7, ← hW3]
  have HAT5 := Lib.hid (HAT2.out.keep hb23)
  have HAT7 := Lib.hid hat4
  have HW3 := Lib.hid (HWAT.out.keep hb23)
  have HOK2 := Lib.hid hok2
  have HOV := Lib.hid hov
  have hrl : (rds V).length = 16 := by rw [rds_len, HN16.out]
  have HRL := Lib.hid hrl
  clear hW3 hG7 hat3 hat4 hb3 hb23 e0 e1 hG2 HAT2 HWAT hok2 hov hrl
  go_upto_region 7 with (go_at_call 18; refine (Reads_any _ V _ HAT5.out HV16.out.ok).mono ?_; rintro e w4 ⟨v9, rfl, ho9⟩; obtain ⟨g9, c9, rfl, hg9, hg9', _⟩ := ho9.shape (by rw [HRL.out]; omega); rw [HRL.out] at ho9 ⊢)
  have h70' := (ho9.below.cell (p := ⟨G7, 0, none⟩) hG37).trans h70
  have h71' := (ho9.below.cell (p := ⟨G7, 1, none⟩) hG37).trans h71
  have e0'' := (ho9.below.cell (p := ⟨G5, 0, none⟩) hG53).trans e0'
  have HSH := Lib.hid hsh
  have HO9 := Lib.hid ho9
  have hb34 := ho9.below
  have hG57 := Nat.lt_of_lt_of_le hG53 hb34.size
  have hG74 := Nat.lt_of_lt_of_le hG37 hb34.size
  clear ho9 hsh
  go_upto_region 10 with (go_at_call 21; refine (CloneW_any pw cw M _ (HW3.out.keep hb34) hml HSH.out).mono ?_; rintro e w5 ⟨v10, rfl, ho10⟩; obtain ⟨pb, cb, rfl⟩ := ho10.isSlice)
  have hm0 : midOf V M 0 = M := by simp [midOf]
  rw [← hm0, mid_len] at ho10
  have HM0 : Hid (OwnW w4.heap.size 48 (.slice pb M.length cb) (midOf V M 0) w4 w5) := ho10
  clear ho10 hm0
  go_wp2
  go_loopw [37] (fun i wr => ∃ k : Nat, k ≤ M.length ∧ i = .int .i64 (k : Int) ∧ OwnW w4.heap.size 48 (.slice pb M.length cb) (midOf V M k) w4 wr) (fun i _ => M.length - (intOf i).toNat)
  case atStart => exact ⟨0, Nat.zero_le _, rfl, HM0.out⟩
  case round =>
    clear HM0
    obtain ⟨k, hk, rfl, hown⟩ := hrel
    by_cases hlt : k < M.length
    · obtain ⟨x, hx⟩ : ∃ x, M[k]? = some x := ⟨M[k], List.getElem?_eq_getElem hlt⟩
      obtain ⟨m, hmb, hm16⟩ : ∃ m : Nat, x.block = (m : Int) ∧ m < 16 := by
        have := HWOK.out.all x (List.mem_of_getElem? hx)
        rw [HN16.out] at this
        exact ⟨x.block.toNat, by omega, by omega⟩
      obtain ⟨gb, rfl, hgb⟩ : ∃ gb, pb = some ⟨gb, 0, none⟩ ∧ w4.heap.size ≤ gb := by
        obtain ⟨gb, cb', he, hgb, _⟩ := hown.shape (by rw [mid_len]; omega)
        injection he with he
        exact ⟨gb, he, hgb⟩
      obtain ⟨c0, c1, df, _⟩ := hown.cell (mid_at hx)
      rw [hmb] at c0
      have df' := df (k * 2 + 1)
      have hr9 := (HO9.out.cell (rds_at (V := V) (b := m) (by rw [HN16.out]; exact hm16))).1
      have c2 := (hown.below.cell (p := ⟨g9, _, none⟩) hg9').trans hr9
      have hset := hown.setData (mid_at hx) (rd V m)
      have hbk : (⟨x.block, rd V m⟩ : Wr) = backOf V x := by unfold backOf; rw [hmb, Int.toNat_natCast]
      rw [hbk, mid_set hx] at hset
      have HSET := Lib.hid hset
      have mi0 : (0 : Int) ≤ (m : Int) := by omega
      have mi1 : (m : Int) < 16 := by omega
      have n1 : ¬ gb = g9 := by omega
      have n2 : ¬ g9 = gb := by omega
      clear hx hmb df hset hbk hr9 hown
      rename_i hq
      clear hq
      go_wp2
      go_roundw
      case rel => exact ⟨k + 1, by omega, by go_num, HSET.out⟩
      case measure => simp [intOf]; omega
    · have hkm : k = M.length := by omega
      obtain ⟨W5, rfl⟩ : ∃ W5, W5 = wr := ⟨_, rfl⟩
      rw [hkm, mid_end] at hown
      have hbo := back_ok HV16.out.ok HWOK.out
      have hwb : WritesAt W5 (.slice pb M.length cb) (M.map (backOf V)) := hown.writes (by rw [List.length_map]; omega)
      obtain ⟨V3, hV3⟩ : ∃ V3, V3 = (applied V2 (M.map (backOf V))).1 := ⟨_, rfl⟩
      have HV3 := Lib.hid hV3
      have hund := undone HV16.out.ok (by rw [HN16.out]; omega) HWOK.out HV2.out
      rw [← hV3] at hund
      have hbo2 : WOk (M.map (backOf V)) V2.blocks.length := by rw [HOK2.out.2]; rw [HN16.out] at hbo; exact hbo
      have hok3 : VOk V3 ∧ V3.blocks.length = 16 := by
        rw [hV3]
        obtain ⟨_, h2, h3, _⟩ := apply_ok HOK2.out.1 (by rw [HOK2.out.2]; omega) hbo2
        exact ⟨h2, h3.trans HOK2.out.2⟩
      have hlen := same_items HV16.out.ok hok3.1 hund
      have HBO2 := Lib.hid hbo2
      have HOK3 := Lib.hid hok3
      have HUND := Lib.hid hund
      have HWB := Lib.hid hwb
      have HLEN := Lib.hid hlen
      have hb45 := hown.below
      have hb35 := hb34.trans (hb45.mono hb34.size)
      have i0 := (hb45.cell (p := ⟨G7, 0, none⟩) hG74).trans h70'
      have i1 := (hb45.cell (p := ⟨G7, 1, none⟩) hG74).trans h71'
      have j0 := (hb45.cell (p := ⟨G5, 0, none⟩) hG57).trans e0''
      have hG5w := Nat.lt_of_lt_of_le hG57 hb45.size
      have HAT9 := Lib.hid (HAT7.out.keep hb35)
      have hs9 : StrsAt w4 (.slice (some ⟨g9, 0, none⟩) 16 c9) (rds V) := OwnS.ints HO9.out (by rw [HRL.out]; omega)
      have HS9 := Lib.hid (hs9.keep hb45)
      clear hkm hbo hwb hV3 hund hbo2 hok3 hlen hs9 hown
      go_upto_region 16 with (go_at_call 17; refine (Apply_ok HOK2.out.1 (by rw [HOK2.out.2]; omega) HBO2.out HV3.out _ _ _ HAT9.out HWB.out).mono ?_; rintro e w6 ⟨p6, c6, q6, d6, rfl, hat6, hb6⟩)
      obtain ⟨G12, hG12⟩ : ∃ G, w6.heap.size = G := ⟨_, rfl⟩
      obtain ⟨W6, hW6⟩ : ∃ W, W = w6.alloc (.cells #[.slice p6 V3.items.length c6, .slice q6 V3.blocks.length d6] 26) := ⟨_, rfl⟩
      have k0 : W6.cell? ⟨G12, 0, none⟩ = some (.slice p6 V3.items.length c6) := by subst hW6; subst hG12; simp
      have k1 : W6.cell? ⟨G12, 1, none⟩ = some (.slice q6 V3.blocks.length d6) := by subst hW6; subst hG12; simp
      have hG12w : G12 < W6.heap.size := by subst hW6; subst hG12; simp
      have hb56 : Below W5.heap.size W5 W6 := by rw [hW6]; exact below_alloc hb6 _
      have hatl : VolAt W6 (.agg #[.slice p6 V3.items.length c6, .slice q6 V3.blocks.length d6]) V3 := by rw [hW6]; exact hat6.keep (below_alloc (Below.refl _ _) _)
      have j0' := (hb56.cell (p := ⟨G5, 0, none⟩) hG5w).trans j0
      have hG56 := Nat.lt_of_lt_of_le hG5w hb56.size
      have HATL := Lib.hid hatl
      rw [hG12, ← hW6]
      have ht : ((V3.items.length : Int) == (V.items.length : Int)) = true := by rw [HLEN.out]; simp
      clear hW6 hG12 hat6 hatl i0 i1 j0 hb6 hlt
      go_wp2_with (first
        | (go_at_call 18; refine (Reads_any _ V3 _ HATL.out HOK3.out.1).mono ?_; rw [HUND.out]; rintro e w8 ⟨v8, rfl, ho8⟩; obtain ⟨g8, c8, rfl, _, _, _⟩ := ho8.shape (by rw [HRL.out]; omega); have hb8 := ho8.below; have HS8 := Lib.hid (OwnS.ints ho8 (by rw [HRL.out]; omega)); have k0' := (hb8.cell (p := ⟨G12, 0, none⟩) hG12w).trans k0; have j0'' := (hb8.cell (p := ⟨G5, 0, none⟩) hG56).trans j0'; have hG128 := Nat.lt_of_lt_of_le hG12w hb8.size; have hG58 := Nat.lt_of_lt_of_le hG56 hb8.size; clear ho8)
        | (go_at_call 19; refine (EqualS_any _ _ (rds V) _ HS8.out (HS9.out.keep (below_then hb56 hb8))).mono ?_; rintro e w9 ⟨rfl, hb9⟩; have k0'' := (hb9.cell (p := ⟨G12, 0, none⟩) hG128).trans k0'; have j0''' := (hb9.cell (p := ⟨G5, 0, none⟩) hG58).trans j0''))
      go_ret
      exact ⟨rfl, below_then (below_then (below_then (below_then hbW3 hb35) hb56) hb8) hb9⟩
end Go.Proofs.YtajjhjabehiikabDoor.writesUndone
