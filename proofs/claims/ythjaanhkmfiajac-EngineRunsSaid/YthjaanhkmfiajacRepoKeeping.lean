/- repo.Keep: what it returns. Condition: none but that the slice is one of items. -/
import Derived.Test.YthjaanhkmfiajacRepoKeep
namespace Go.Proofs.Ythjaanhkmfiajac
open Go.RowKit Go.Maps

set_option maxRecDepth 100000 in
set_option maxHeartbeats 2000000 in
theorem Keep_any (v : Value) (L : List It) (d : ByteArray) (w : World) (h : ItemsAt w v L) :
    Calls Try.prog 74 #[v, .string d] w (RetKept (kept L d).1 (kept L d).2.1 (kept L d).2.2 w) := by
  have HI := Lib.hid h
  cases hm : mayB L with
  | false =>
    have hu : kept L d = ([], 0, 7) := by unfold kept; rw [if_pos hm]
    have hk : chk L = 7 := by unfold chk; rw [hm]; rfl
    have HK := Lib.hid hk
    rw [hu]
    clear hu hm h hk
    go_enter Try.func74, Try.ntmps74
    go_wp2_with (go_at_call 70; refine (Check_any v L _ HI.out).mono ?_; rw [HK.out]; rintro e w1 ⟨rfl, hb1⟩)
    go_ret3
    exact ⟨_, rfl, OwnI.nil hb1 hb1.size⟩
  | true =>
    have hk : chk L = 0 := by unfold chk; rw [hm]; rfl
    have HK := Lib.hid hk
    clear hk
    by_cases hd48 : 48 < d.size
    · have hu : kept L d = ([], 0, 1) := by unfold kept; rw [if_neg (by simp [hm]), if_pos hd48]
      rw [hu]
      clear hu hm h
      go_enter Try.func74, Try.ntmps74
      go_wp2_with (go_at_call 70; refine (Check_any v L _ HI.out).mono ?_; rw [HK.out]; rintro e w1 ⟨rfl, hb1⟩)
      go_ret3
      exact ⟨_, rfl, OwnI.nil hb1 hb1.size⟩
    · have hlen := may_len hm
      have hsz : ∀ x ∈ L, x.data.size ≤ 48 := by
        intro x hx
        obtain ⟨j, hj⟩ := List.getElem?_of_mem hx
        exact (may_ok hm hj).2.2.1
      have HSZ := Lib.hid hsz
      have hkey := Try.keyD (d := d) (by omega)
      have HM := Lib.hid hm
      clear hsz
      cases hp : posData L d with
      | none =>
        rw [kept_new hm hd48 hp]
        have HH := Lib.hid (imap_has_no (L := L) (d := d) L.length (posData_no hp))
        clear hm hp h
        go_enter Try.func74, Try.ntmps74
        go_wp2_with (first
          | (go_at_call 70; refine (Check_any v L _ HI.out).mono ?_; rw [HK.out]; rintro e w1 ⟨rfl, hb1⟩)
          | (go_at_call 79; refine (indexByData_any _ L _ (HI.out.keep hb1) hlen HSZ.out).mono ?_; rintro e w2 ⟨bm, rfl, hmap, hb2⟩; have hb12 := below_then hb1 hb2)
          | (at_lookup; refine wpList_lookup_own_ok_int _ rfl _ _ 129 rfl 9 3 .i64 Try.keyS Try.underlying129 Try.underlying3 (Try.zeroI _) bm L.length _ rfl hmap _ _ rfl hkey ?_; rw [HH.out]; intro c hat hwc; clear hat hwc)
          | (go_at_call 83; refine (add_any _ L d _ (HI.out.keep hb12) HM.out).mono ?_; rintro e w3 ⟨v3, rfl, hown3⟩))
        go_ret3
        exact ⟨_, rfl, hown3.lower hb12.size hb12⟩
      | some k =>
        obtain ⟨x, hx, hxd⟩ := posData_lt hp
        have hok := may_ok hm hx
        have hk := (List.getElem?_eq_some_iff.1 hx).1
        have hu := kept_old hm hd48 hp hx
        have HH := Lib.hid (imap_has_yes (L := L) hx hxd L.length hk)
        have hat0 : ∀ c : Int, (imap L L.length).atKey (dkey d) (.lit (.int .i64 0)) = .lit (.int .i64 c) → c = (k : Int) := by
          intro c hc
          rw [← hxd, imap_at hx _ L.length hk (fun i y h1 _ hy => (may_apart hm h1 hx hy).2)] at hc
          injection hc with hc
          injection hc with _ hc
          exact hc.symm
        have HAT := Lib.hid hat0
        obtain ⟨p, cap, rfl, hl, _, hc⟩ := h
        obtain ⟨b, off, rfl, hbl, c0, _, _⟩ := hc k x hx
        have C0 := Lib.hid c0
        have HX := Lib.hid hx
        by_cases hr : 32 ≤ x.refs
        · rw [if_pos hr] at hu
          rw [hu]
          have HR : Hid (x.refs = 32) := (by omega : x.refs = 32)
          clear hm hp hat0 hc c0 hx hok hu hr hxd
          go_enter Try.func74, Try.ntmps74
          go_wp2_with (first
            | (go_at_call 70; refine (Check_any _ L _ HI.out).mono ?_; rw [HK.out]; rintro e w1 ⟨rfl, hb1⟩)
            | (go_at_call 79; refine (indexByData_any _ L _ (HI.out.keep hb1) hlen HSZ.out).mono ?_; rintro e w2 ⟨bm, rfl, hmap, hb2⟩; have hb12 := below_then hb1 hb2)
            | (at_lookup; refine wpList_lookup_own_ok_int _ rfl _ _ 129 rfl 9 3 .i64 Try.keyS Try.underlying129 Try.underlying3 (Try.zeroI _) bm L.length _ rfl hmap _ _ rfl hkey ?_; rw [HH.out]; intro c hat hwc; obtain rfl := HAT.out c hat; clear hat hwc)
            | (go_at_call 84; refine (addUse_full _ L k x _ (HI.out.keep hb12) HX.out HR.out).mono ?_; rintro e w3 ⟨v3, rfl, hown3⟩))
          go_ret3
          exact ⟨_, rfl, OwnI.nil (below_then hb12 hown3.below) (below_then hb12 hown3.below).size⟩
        · rw [if_neg hr] at hu
          rw [hu]
          have HR : Hid (1 ≤ x.refs ∧ x.refs < 32) := ⟨hok.2.2.2.1, by omega⟩
          clear hm hp hat0 hc c0 hx hok hu hr hxd
          go_enter Try.func74, Try.ntmps74
          go_wp2_with (first
            | (go_at_call 70; refine (Check_any _ L _ HI.out).mono ?_; rw [HK.out]; rintro e w1 ⟨rfl, hb1⟩)
            | (go_at_call 79; refine (indexByData_any _ L _ (HI.out.keep hb1) hlen HSZ.out).mono ?_; rintro e w2 ⟨bm, rfl, hmap, hb2⟩; have hb12 := below_then hb1 hb2)
            | (at_lookup; refine wpList_lookup_own_ok_int _ rfl _ _ 129 rfl 9 3 .i64 Try.keyS Try.underlying129 Try.underlying3 (Try.zeroI _) bm L.length _ rfl hmap _ _ rfl hkey ?_; rw [HH.out]; intro c hat hwc; obtain rfl := HAT.out c hat; clear hat hwc)
            | (go_at_call 84; refine (addUse_some _ L k x _ (HI.out.keep hb12) HX.out HR.out.1 HR.out.2 hlen).mono ?_; rintro e w3 ⟨v3, rfl, hown3⟩; have d0 := ((below_then hb12 hown3.below).cell (p := ⟨b, _, none⟩) hbl).trans C0.out; have HO := Lib.hid (hown3.lower hb12.size hb12); clear hown3))
          go_quiet (fail)
          go_wp2
          go_ret3
          exact ⟨_, rfl, HO.out.drewN _⟩
end Go.Proofs.Ythjaanhkmfiajac
