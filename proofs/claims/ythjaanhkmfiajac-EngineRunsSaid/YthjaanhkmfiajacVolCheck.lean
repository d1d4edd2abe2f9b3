/- volume.Check: what it returns. Condition: the blocks are ints. -/
import Derived.Test.YthjaanhkmfiajacVolUses
import Derived.Test.YthjaanhkmfiajacRepoCheck
import Derived.Test.YthjaanhkmfiajacPure
namespace Go.Proofs.Ythjaanhkmfiajac
open Go.RowKit Go.Maps

theorem may_ids {L : List It} (h : mayB L = true) : (L.map It.id).Nodup := by
  refine List.pairwise_map.2 ((may_pw h).imp ?_)
  intro a b hab e
  have := hab.1
  omega
/-- every item is used as often as it says: then the map's size tells whether the volume is valid -/
theorem uses_size {V : Vol} (hm : mayB V.items = true) (hl : 1 ≤ V.blocks.length ∧ V.blocks.length ≤ 32) (hu : ∀ x ∈ V.items, usesB V.blocks x = true) : (Maps.size (umap V.blocks V.blocks.length) = V.items.length) ↔ volB V = true := by
  obtain ⟨K, h1, h2, h3, h4⟩ := umap_keys (Z := V.blocks) V.blocks.length (Nat.le_refl _)
  simp only [List.take_length] at h4
  have hu' : ∀ x ∈ V.items, (V.blocks.count x.id : Int) = x.refs ∧ 0 < x.data.size := by
    intro x hx
    simpa only [usesB, Bool.and_eq_true, decide_eq_true_eq] using hu x hx
  have hsub : ∀ y ∈ V.items.map It.id, y ∈ K := by
    intro y hy
    obtain ⟨x, hx, rfl⟩ := List.mem_map.1 hy
    have hx0 := may_mem hm hx
    have := (hu' x hx).1
    exact (h4 _).2 ⟨List.count_pos_iff.1 (by omega), by omega⟩
  rw [h2, volB_iff]
  constructor
  · intro he
    refine ⟨hm, hl, fun z hz => ?_, hu'⟩
    by_cases h0 : z = -1
    · exact Or.inl h0
    · right
      have := sub_of_len (may_ids hm) hsub (by rw [List.length_map, he]) ((h4 z).2 ⟨hz, h0⟩)
      obtain ⟨x, hx, hid⟩ := List.mem_map.1 this
      exact ⟨x, hx, hid⟩
  · intro hv
    have e1 := le_of_sub _ _ (may_ids hm) hsub
    have e2 := le_of_sub K (V.items.map It.id) h1 (fun y hy => by
      obtain ⟨hb, h0⟩ := (h4 y).1 hy
      rcases hv.blk y hb with h | ⟨x, hx, hid⟩
      · exact absurd h h0
      · exact List.mem_map.2 ⟨x, hx, hid⟩)
    rw [List.length_map] at e1 e2
    omega

set_option maxRecDepth 100000 in
set_option maxHeartbeats 2000000 in
theorem VCheck_any (v : Value) (V : Vol) (w : World) (h : VolAt w v V) (hwz : WideZ V.blocks) :
    Calls Try.prog 56 #[v] w fun e w' => e = .returned (.int .i64 (vchk V)) ∧ Below w.heap.size w w' := by
  obtain ⟨vi, vb, rfl, hI, hZ⟩ := h
  have hI' := hI
  obtain ⟨p, cap, rfl, hl, _, hc⟩ := hI'
  have hZ' := hZ
  obtain ⟨pz, capz, rfl, hlz, _, _⟩ := hZ'
  have HI := Lib.hid hI
  have HC := Lib.hid hc
  have HZ := Lib.hid hZ
  have HWZ : Hid (∀ z ∈ V.blocks, (Lit.int .i64 z).wf = true) := (fun z hz => i64_wf (hwz z hz) : ∀ z ∈ V.blocks, (Lit.int .i64 z).wf = true)
  clear hc hI hZ hwz
  cases hm : mayB V.items with
  | false =>
    have hr : vchk V = 7 := by unfold vchk; rw [vol_items hm]; rfl
    have hk : chk V.items = 7 := by unfold chk; rw [hm]; rfl
    have HR := Lib.hid hr
    have HK := Lib.hid hk
    clear hr hk hm
    go_enter Try.func56, Try.ntmps56
    go_wp2_with (go_at_call 70; refine (Check_any _ V.items _ (HI.out.keep ((Below.refl _ _).alloc (Nat.le_refl _) _))).mono ?_; rw [HK.out]; rintro e w1 ⟨rfl, hb1⟩; have hP : Past2 w _ _ _ w1 := hb1; obtain ⟨q0, q1, f0, f1, hz⟩ := hP.cells)
    go_ret
    exact ⟨ret_int HR.out.symm, below_box hb1⟩
  | true =>
    have hk : chk V.items = 0 := by unfold chk; rw [hm]; rfl
    have HK := Lib.hid hk
    have HM := Lib.hid hm
    clear hk
    by_cases hin : 1 ≤ V.blocks.length ∧ V.blocks.length ≤ 32
    · obtain ⟨hin1, hin2⟩ := hin
      clear hm
      go_enter Try.func56, Try.ntmps56
      go_wp2_with (first
        | (go_at_call 70; refine (Check_any _ V.items _ (HI.out.keep ((Below.refl _ _).alloc (Nat.le_refl _) _))).mono ?_; rw [HK.out]; rintro e w1 ⟨rfl, hb1⟩; have hP : Past2 w _ _ _ w1 := hb1; obtain ⟨q0, q1, f0, f1, hz⟩ := hP.cells)
        | (go_at_call 71; refine (countUses_any _ V.blocks _ (HZ.out.keep hP.box) (by omega) HWZ.out).mono ?_; rintro e w2 ⟨bm, rfl, hmap, hb2⟩; have hP2 := hP.next hb2; clear q0 q1 f0 f1 hz; obtain ⟨q0, q1, f0, f1, hz⟩ := hP2.cells))
      have HMAP : Hid (UsesAt w2 bm V.blocks) := hmap
      clear q0 q1 f0 f1 hz hmap
      go_loopw [26] (fun i wr => ∃ k : Nat, k ≤ V.items.length ∧ i = .int .i64 k ∧ (∀ (j : Nat) (x : It), j < k → V.items[j]? = some x → usesB V.blocks x = true) ∧ UsesAt wr bm V.blocks ∧ Past2 w (.slice p V.items.length cap) (.slice pz V.blocks.length capz) 27 wr) (fun i _ => V.items.length - (intOf i).toNat)
      case atStart => exact ⟨0, Nat.zero_le _, rfl, fun j _ hj => absurd hj (by omega), HMAP.out, hP2⟩
      case round =>
        clear hP hP2 hb1 hb2
        obtain ⟨k, hk, rfl, hall, hmap, hP⟩ := hrel
        obtain ⟨q0, q1, f0, f1, hz⟩ := hP.cells
        have HA := Lib.hid hall
        clear hall
        by_cases hlt : k < V.items.length
        · obtain ⟨x, hx⟩ : ∃ x, V.items[k]? = some x := ⟨V.items[k], List.getElem?_eq_getElem hlt⟩
          obtain ⟨b, off, rfl, hbl, c0, c1, c2⟩ := HC.out k x hx
          replace c0 := (hP.box.cell (p := ⟨b, _, none⟩) hbl).trans c0
          replace c1 := (hP.box.cell (p := ⟨b, _, none⟩) hbl).trans c1
          replace c2 := (hP.box.cell (p := ⟨b, _, none⟩) hbl).trans c2
          have hok := may_ok HM.out hx
          have hne : x.id ≠ -1 := by omega
          have hat := umap_at (Z := V.blocks) hne V.blocks.length (Nat.le_refl _)
          rw [List.take_length] at hat
          obtain ⟨n, hn⟩ : ∃ n : Nat, n = V.blocks.count x.id := ⟨_, rfl⟩
          rw [← hn] at hat
          have hlk : ∀ o, (Instr.lookup 122 (.map (some bm)) (.int .i64 x.id) false).run Try.prog (wr.alloc o) = .ok (.int .i64 (n : Int)) (wr.alloc o) := by
            intro o
            obtain ⟨c, hrun, hc, _⟩ := (hmap.alloc o).lookup_int Try.keyI Try.underlying122 Try.underlying3 (Try.zeroI _) (Try.keyZ (z := x.id) (i64_wf (by omega)))
            rw [hat] at hc
            injection hc with hc
            injection hc with _ hc
            rw [hrun, ← hc]
          have HX := Lib.hid hx
          have HN := Lib.hid hn
          have HMAP2 : Hid (∀ o, UsesAt (wr.alloc o) bm V.blocks) := (fun o => hmap.alloc o : ∀ o, UsesAt (wr.alloc o) bm V.blocks)
          clear hx hn hat hne hmap hok
          by_cases h2 : 0 < x.data.size
          · have ht2 : x.data.toList.isEmpty = false := by
              rw [ByteArray.toList_eq]
              cases hl : x.data.data.toList with
              | nil => have h3 : x.data.data.toList.length = x.data.size := Array.length_toList; rw [hl] at h3; simp at h3; omega
              | cons c t => rfl
            by_cases h1 : x.refs = (n : Int)
            · have ht1 : (x.refs != (n : Int)) = false := by simpa using h1
              have hu : usesB V.blocks x = true := by unfold usesB; rw [← HN.out]; simp [h1, h2]
              have HU1 := Lib.hid hu
              clear h1 hu
              go_wp2
              go_roundw
              case rel => exact ⟨k + 1, by omega, by go_num, fun j y hj hy => by
                by_cases hjk : j < k
                · exact HA.out j y hjk hy
                · obtain rfl : j = k := by omega
                  have := HX.out
                  rw [this] at hy; cases hy; exact HU1.out, HMAP2.out _, hP.next (below_alloc (Below.refl _ _) _)⟩
              case measure => simp [intOf]; omega
            · have ht1 : (x.refs != (n : Int)) = true := by simpa using h1
              have hu : usesB V.blocks x = false := by unfold usesB; rw [← HN.out]; simp [show ¬ ((n : Int) = x.refs) from fun e => h1 e.symm]
              have HR : Hid (vchk V = 7) := (by unfold vchk; rw [vol_uses HX.out hu]; rfl : vchk V = 7)
              clear h1 hu
              go_wp2
              go_ret
              exact ⟨ret_int HR.out.symm, below_alloc hP.box _⟩
          · have hu : usesB V.blocks x = false := by unfold usesB; simp [h2]
            have ht2 : x.data.toList.isEmpty = true := by
              rw [ByteArray.toList_eq, List.eq_nil_of_length_eq_zero (l := x.data.data.toList) (by have h3 : x.data.data.toList.length = x.data.size := Array.length_toList; omega)]; rfl
            have HR : Hid (vchk V = 7) := (by unfold vchk; rw [vol_uses HX.out hu]; rfl : vchk V = 7)
            clear hu
            go_wp2
            go_ret
            exact ⟨ret_int HR.out.symm, below_alloc hP.box _⟩
        · have hus : ∀ x ∈ V.items, usesB V.blocks x = true := by
            intro x hx
            obtain ⟨j, hj⟩ := List.getElem?_of_mem hx
            exact HA.out j x (by have := (List.getElem?_eq_some_iff.1 hj).1; omega) hj
          have hiff := uses_size HM.out ⟨hin1, hin2⟩ hus
          obtain ⟨m, hm0⟩ : ∃ m, m = Maps.size (umap V.blocks V.blocks.length) := ⟨_, rfl⟩
          rw [← hm0] at hiff
          have HS := Lib.hid hm0
          by_cases he : m = V.items.length
          · have hr : vchk V = 0 := by unfold vchk; rw [hiff.1 he]; rfl
            have HR := Lib.hid hr
            have ht : ((m : Int) != (V.items.length : Int)) = false := by simp [he]
            clear hr hiff hus hm0 he
            go_wp2_with (at_len; refine wpList_len_own _ rfl _ 122 rfl 3 3 Try.underlying122 _ bm V.blocks.length _ rfl hmap ?_; rw [← HS.out])
            go_ret
            exact ⟨ret_int HR.out.symm, hP.box⟩
          · have hvb : volB V = false := by
              cases hv : volB V with
              | false => rfl
              | true => exact absurd (hiff.2 hv) he
            have hr : vchk V = 7 := by unfold vchk; rw [hvb]; rfl
            have HR := Lib.hid hr
            have ht : ((m : Int) != (V.items.length : Int)) = true := by simp; omega
            clear hr hiff hus hm0 he hvb
            go_wp2_with (at_len; refine wpList_len_own _ rfl _ 122 rfl 3 3 Try.underlying122 _ bm V.blocks.length _ rfl hmap ?_; rw [← HS.out])
            go_ret
            exact ⟨ret_int HR.out.symm, hP.box⟩
    · have hr : vchk V = 7 := by unfold vchk; rw [vol_len hin]; rfl
      have HR := Lib.hid hr
      clear hr hm
      by_cases hlo : V.blocks.length < 1
      · clear hin
        go_enter Try.func56, Try.ntmps56
        go_wp2_with (go_at_call 70; refine (Check_any _ V.items _ (HI.out.keep ((Below.refl _ _).alloc (Nat.le_refl _) _))).mono ?_; rw [HK.out]; rintro e w1 ⟨rfl, hb1⟩; have hP : Past2 w _ _ _ w1 := hb1; obtain ⟨q0, q1, f0, f1, hz⟩ := hP.cells)
        go_ret
        exact ⟨ret_int HR.out.symm, below_box hb1⟩
      · have hhi : 32 < V.blocks.length := by omega
        clear hin
        go_enter Try.func56, Try.ntmps56
        go_wp2_with (go_at_call 70; refine (Check_any _ V.items _ (HI.out.keep ((Below.refl _ _).alloc (Nat.le_refl _) _))).mono ?_; rw [HK.out]; rintro e w1 ⟨rfl, hb1⟩; have hP : Past2 w _ _ _ w1 := hb1; obtain ⟨q0, q1, f0, f1, hz⟩ := hP.cells)
        go_ret
        exact ⟨ret_int HR.out.symm, below_box hb1⟩
end Go.Proofs.Ythjaanhkmfiajac
