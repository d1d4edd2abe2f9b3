/- UsesCount, walked. No condition but that the numbers are ints. -/
import Derived.Test.YtajjhjabehiikabDoorKeepVol2
import Derived.Test.YtajjhjabehiikabDoorKeepEqual
import Derived.Test.YtajjhjabehiikabDoorOnceMath
import Derived.Test.YtajjhjabehiikabDoorRepoUse
import Derived.Deep.RegionHeld3
namespace Go.Proofs.YtajjhjabehiikabDoor.usesCount
open Go Go.RowKit

theorem Use_at {L M : List It} {id n : Int} (hr : used L id = (M, n)) (v : Value) (w : World) (h : ItemsAt w v L) :
    Calls Tryd.prog 14 #[v, .int .i64 id] w (RetItems M n w) := by
  have := Use_any v L id w h
  rw [hr] at this
  exact this
theorem Drop_at {L M : List It} {id n : Int} (hr : dropped L id = (M, n)) (v : Value) (w : World) (h : ItemsAt w v L) :
    Calls Tryd.prog 12 #[v, .int .i64 id] w (RetItems M n w) := by
  have := Drop_any v L id w h
  rw [hr] at this
  exact this
theorem Check_ok {L : List It} (hm : mayB L = true) (v : Value) (w : World) (h : ItemsAt w v L) :
    Calls Tryd.prog 15 #[v] w fun e w' => e = .returned (.int .i64 0) ∧ Below w.heap.size w w' := by
  have := Check_any v L w h
  have hk : chk L = 0 := by unfold chk; rw [hm]; rfl
  rw [hk] at this
  exact this

set_option maxRecDepth 100000 in
set_option maxHeartbeats 4000000 in
theorem walk (v : Value) (L : List Rw) (a : Int) (w : World) (h : RawsAt w v L) (hok : ∀ r ∈ L, RwOk r) (ha : -9223372036854775808 ≤ a ∧ a ≤ 9223372036854775807) :
    Calls Tryd.prog 4 #[v, .int .i64 a] w fun e w' => e = .returned (.bool true) ∧ Below w.heap.size w w' := by
  have HV := Lib.hid (Volume_at v L w h hok)
  have HA := Lib.hid ha
  clear h hok ha
  go_enter Tryd.func4, Tryd.ntmps4
  go_upto_region 2 with (go_at_call 8; refine HV.out.mono ?_; rintro e w1 ⟨p, c, pz, cz, V, rfl, hat, hV, hb1⟩)
  obtain ⟨G, hG⟩ : ∃ G, w1.heap.size = G := ⟨_, rfl⟩
  obtain ⟨W, hW⟩ : ∃ W, W = w1.alloc (.cells #[.slice p V.items.length c, .slice pz V.blocks.length cz] 26) := ⟨_, rfl⟩
  have g0 : W.cell? ⟨G, 0, none⟩ = some (.slice p V.items.length c) := by subst hW; subst hG; simp
  have hbW : Below w.heap.size w W := by subst hW; exact below_alloc hb1 _
  have hGW : G < W.heap.size := by subst hW; subst hG; simp
  have hI : ItemsAt W (.slice p V.items.length c) V.items := by subst hW; exact hat.items.keep (below_alloc (Below.refl _ _) _)
  have hbG : ∀ (b off : Nat) (x : Value), w1.cell? ⟨b, off, none⟩ = some x → b < w1.heap.size := fun b off x hc => by
    have : w1.heap[b]? ≠ none := by intro hn; simp [World.cell?, hn] at hc
    simpa using this
  rw [hG, ← hW]
  clear hbG
  have hI1 := hat.items
  have HI := Lib.hid hI
  have HI1 := Lib.hid hI1
  have hGs : G = w1.heap.size := hG.symm
  clear hW hG hat hI hI1 hb1 HV
  by_cases h0 : V.items.length = 0
  · have he : V.items = [] := List.eq_nil_of_length_eq_zero h0
    have hI2 : ItemsAt W (.slice p 0 c) [] := by have := HI.out; rw [he] at this; exact this
    have HI2 := Lib.hid hI2
    have hu : used [] 0 = ([], 6) := by unfold used; rw [got_none (by decide) rfl]; rfl
    have hd : dropped [] 0 = ([], 6) := by unfold dropped; rw [got_none (by decide) rfl]; rfl
    have HU := Lib.hid hu
    have HD := Lib.hid hd
    rw [h0] at g0
    clear hI2 hu hd he HI HI1 hGs
    go_wp2_with (first
      | (go_at_call 14; refine (Use_at HU.out _ _ HI2.out).mono ?_; rintro e w2 ⟨v2, rfl, ho2⟩; have hb2 := ho2.below; have c0 := (hb2.cell (p := ⟨G, 0, none⟩) hGW).trans g0; clear ho2)
      | (go_at_call 12; refine (Drop_at HD.out _ _ (HI2.out.keep hb2)).mono ?_; rintro e w3 ⟨v3, rfl, ho3⟩; have hb3 := ho3.below; clear ho3))
    go_ret
    exact ⟨rfl, below_then (below_then hbW hb2) hb3⟩
  · obtain ⟨k, hk, hkl⟩ := pick_nat a (V.items.length : Int) (by omega)
    have hkl' : k < V.items.length := by omega
    obtain ⟨x, hx⟩ : ∃ x, V.items[k]? = some x := ⟨V.items[k], List.getElem?_eq_getElem hkl'⟩
    have hil := hV.items
    have hm := hV.ok.may
    obtain ⟨b, off, hp, hbl, c0, c1, c2⟩ : ∃ b off, p = some ⟨b, off, none⟩ ∧ b < G ∧ W.cell? ⟨b, off + k * 3, none⟩ = some (.int .i64 x.id) ∧ W.cell? ⟨b, off + k * 3 + 1, none⟩ = some (.string x.data) ∧ W.cell? ⟨b, off + k * 3 + 2, none⟩ = some (.int .i64 x.refs) := by
      obtain ⟨p1, c1, e1, _, _, h1⟩ := HI1.out
      cases e1
      obtain ⟨p2, c2, e2, _, _, h2⟩ := HI.out
      cases e2
      obtain ⟨b, off, e, hb, _⟩ := h1 k x hx
      obtain ⟨b2, off2, e2, _, d0, d1, d2⟩ := h2 k x hx
      rw [e] at e2
      cases e2
      exact ⟨b, off, e, by rw [hGs]; exact hb, d0, d1, d2⟩
    subst hp
    have hok := may_ok hm hx
    have hu := use_some hm hx
    have HK := Lib.hid hk
    have HX := Lib.hid hx
    have HM := Lib.hid hm
    have n1 : ¬ W.heap.size = G := by omega
    have n2 : ¬ G = W.heap.size := by omega
    have n3 : ¬ W.heap.size = b := by omega
    have n4 : ¬ b = W.heap.size := by omega
    have ki0 : (0 : Int) ≤ (k : Int) := by omega
    have hbW2 : b < W.heap.size := by omega
    clear hk hx hm hGs
    go_wp2
    go_region_held3 (fun w' => w'.cell? ⟨G, 0, none⟩ = some (.slice (some ⟨b, off, none⟩) V.items.length c) ∧ w'.cell? ⟨b, off + k * 3, none⟩ = some (.int .i64 x.id) ∧ w'.cell? ⟨b, off + k * 3 + 1, none⟩ = some (.string x.data) ∧ w'.cell? ⟨b, off + k * 3 + 2, none⟩ = some (.int .i64 x.refs)) (go_keep)
      ((go_at_call 9; refine (picked_any _ _ HA.out (by omega) _).mono ?_; rw [HK.out]; rintro e w2 ⟨rfl, rfl⟩))
    all_goals
      obtain ⟨W2, hW2⟩ : ∃ W2, W2 = (W.alloc (.cells #[.int .i64 x.id, .string x.data, .int .i64 x.refs] 33)).drew := ⟨_, rfl⟩
      have e0 : W2.cell? ⟨G, 0, none⟩ = some (.slice (some ⟨b, off, none⟩) V.items.length c) := by
        rw [hW2]; exact (World.cell?_alloc_lt W _ ⟨G, 0, none⟩ hGW).trans g0
      have i0 : W2.cell? ⟨W.heap.size, 0, none⟩ = some (.int .i64 x.id) := by rw [hW2]; show (W.alloc _).cell? _ = _; simp
      have i1 : W2.cell? ⟨W.heap.size, 2, none⟩ = some (.int .i64 x.refs) := by rw [hW2]; show (W.alloc _).cell? _ = _; simp
      have hb2 : Below W.heap.size W W2 := by rw [hW2]; exact (below_alloc (Below.refl _ _) _).drew
      have hs2 : W.heap.size < W2.heap.size := by rw [hW2]; show _ < (W.alloc _).heap.size; simp
      have hG2 : G < W2.heap.size := by omega
      rw [← hW2]
      have HI2 := Lib.hid (HI.out.keep hb2)
      clear hW2 c0 c1 c2 g0
      by_cases hr : x.refs = 32
      · rw [if_pos hr] at hu
        have HU := Lib.hid hu
        have HR := Lib.hid hr
        rw [hr] at i1
        clear hu hr
        go_wp2_with (go_at_call 14; refine (Use_at HU.out _ _ HI2.out).mono ?_; rintro e w3 ⟨v3, rfl, ho3⟩; have hb3 := ho3.below; have e0' := (hb3.cell (p := ⟨G, 0, none⟩) hG2).trans e0; have i0' := (hb3.cell (p := ⟨W.heap.size, 0, none⟩) hs2).trans i0; have i1' := (hb3.cell (p := ⟨W.heap.size, 2, none⟩) hs2).trans i1; clear ho3)
        go_ret
        exact ⟨rfl, below_then (below_then hbW hb2) hb3⟩
      · rw [if_neg hr] at hu
        have hd := use_drop HM.out HX.out (by omega)
        have hm2 := set_may HM.out HX.out (by omega)
        have HU := Lib.hid hu
        have HD := Lib.hid hd
        have HM2 := Lib.hid hm2
        have ht : (x.refs == 32) = false := by simpa using hr
        clear hu hr hd hm2
        go_wp2_with (first
          | (go_at_call 14; refine (Use_at HU.out _ _ HI2.out).mono ?_; rintro e w3 ⟨v3, rfl, ho3⟩; obtain ⟨p3, q3, rfl⟩ := ho3.isSlice; have hb3 := ho3.below; have e0' := (hb3.cell (p := ⟨G, 0, none⟩) hG2).trans e0; have i0' := (hb3.cell (p := ⟨W.heap.size, 0, none⟩) hs2).trans i0; have i1' := (hb3.cell (p := ⟨W.heap.size, 2, none⟩) hs2).trans i1; have hi3 : ItemsAt w3 (.slice p3 V.items.length q3) (V.items.set k { x with refs := x.refs + 1 }) := (by have := ho3.items (by rw [List.length_set]; omega); rw [List.length_set] at this; exact this); have HI3 := Lib.hid hi3; clear hi3; have hG3 := Nat.lt_of_lt_of_le hG2 hb3.size; clear ho3)
          | (go_at_call 12; refine (Drop_at HD.out _ _ HI3.out).mono ?_; rintro e w4 ⟨v4, rfl, ho4⟩; obtain ⟨p4, q4, rfl⟩ := ho4.isSlice; have hb4 := ho4.below; have e0'' := (hb4.cell (p := ⟨G, 0, none⟩) hG3).trans e0'; have HI4 := Lib.hid (ho4.items (by omega)); clear ho4)
          | (go_at_call 13; refine (EqualI_any _ _ V.items _ HI4.out (HI2.out.keep (below_then hb3 hb4))).mono ?_; rintro e w5 ⟨rfl, hb5⟩)
          | (go_at_call 15; refine (Check_ok HM2.out _ _ (HI3.out.keep (below_then hb4 hb5))).mono ?_; rintro e w6 ⟨rfl, hb6⟩))
        go_ret
        exact ⟨rfl, below_then (below_then (below_then (below_then (below_then hbW hb2) hb3) hb4) hb5) hb6⟩
end Go.Proofs.YtajjhjabehiikabDoor.usesCount
