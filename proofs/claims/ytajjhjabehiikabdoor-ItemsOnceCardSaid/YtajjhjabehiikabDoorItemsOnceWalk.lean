/- ItemsOnce, walked. No condition but that the numbers are ints. -/
import Derived.Test.YtajjhjabehiikabDoorKeepVol2
import Derived.Test.YtajjhjabehiikabDoorKeepEqual
import Derived.Test.YtajjhjabehiikabDoorOnceMath
import Derived.Test.YtajjhjabehiikabDoorRepoGet
namespace Go.Proofs.YtajjhjabehiikabDoor.itemsOnce
open Go Go.RowKit

/-- "never there" -/
def nev : ByteArray := ⟨#[110, 101, 118, 101, 114, 32, 116, 104, 101, 114, 101]⟩
theorem fresh {V : Vol} (h : V16 V) : ∃ g, Fresh V.items g nev := by
  obtain ⟨g, hg⟩ := gap_ex V.items
  refine ⟨g, h.ok.may, by have := h.items; omega, hg, by decide, fun x hx he => h.dat x hx ?_⟩
  rw [he]
  rfl

theorem Keep_at {L M : List It} {d : ByteArray} {id n : Int} (hr : kept L d = (M, id, n)) (v : Value) (w : World) (h : ItemsAt w v L) :
    Calls Tryd.prog 10 #[v, .string d] w (RetKept M id n w) := by
  have := Keep_any v L d w h
  rw [hr] at this
  exact this
theorem Drop_at {L M : List It} {id n : Int} (hr : dropped L id = (M, n)) (v : Value) (w : World) (h : ItemsAt w v L) :
    Calls Tryd.prog 12 #[v, .int .i64 id] w (RetItems M n w) := by
  have := Drop_any v L id w h
  rw [hr] at this
  exact this
theorem Get_to {L : List It} {id : Int} {x : It} {n : Int} (hg : got L id = (x, n)) (v : Value) (w : World) (h : ItemsAt w v L) :
    Calls Tryd.prog 11 #[v, .int .i64 id] w fun e w' => e = .returned (.tuple #[.agg #[.int .i64 x.id, .string x.data, .int .i64 x.refs], .int .i64 n]) ∧ Below w.heap.size w w' := by
  refine (Get_any v L id w h).mono ?_
  rw [hg]
  exact fun e w' he => he

/-- the items after j keeps -/
def stage (L : List It) (g j : Nat) : List It := if j = 0 then L else withNew L g nev j
theorem stage_len {L : List It} {g : Nat} (h : Fresh L g nev) (j : Nat) : (stage L g j).length = if j = 0 then L.length else L.length + 1 := by
  unfold stage
  by_cases hj : j = 0
  · rw [if_pos hj, if_pos hj]
  · rw [if_neg hj, if_neg hj, withNew_len h.le]
theorem stage_keep {L : List It} {g : Nat} (h : Fresh L g nev) {j : Nat} (hj : j < 32) : kept (stage L g j) nev = (stage L g (j + 1), (g : Int), 0) := by
  unfold stage
  rw [if_neg (by omega : ¬ j + 1 = 0)]
  by_cases h0 : j = 0
  · subst h0
    rw [if_pos rfl]
    exact h.first
  · rw [if_neg h0]
    exact h.more (by omega) hj
theorem stage_drop {L : List It} {g : Nat} (h : Fresh L g nev) {j : Nat} (hj : j < 32) : dropped (stage L g (j + 1)) (g : Int) = (stage L g j, 0) := by
  unfold stage
  rw [if_neg (by omega : ¬ j + 1 = 0), h.less (by omega) (by omega)]
  by_cases h0 : j = 0
  · rw [if_pos (by omega), if_pos h0]
  · rw [if_neg (by omega), if_neg h0]
    rfl
theorem stage_got {L : List It} {g : Nat} (h : Fresh L g nev) {j : Nat} (h1 : 1 ≤ j) (h2 : j ≤ 32) : got (stage L g j) (g : Int) = (⟨(g : Int), nev, (j : Int)⟩, 0) := by
  unfold stage
  rw [if_neg (by omega)]
  exact h.got h1 h2

theorem Get_full {L : List It} {g n : Nat} (h : Fresh L g nev) (hn : n < 32) (v : Value) (w : World) (hi : ItemsAt w v (stage L g (n + 1))) :
    Calls Tryd.prog 11 #[v, .int .i64 (g : Int)] w fun e w' => e = .returned (.tuple #[.agg #[.int .i64 (g : Int), .string ⟨#[110, 101, 118, 101, 114, 32, 116, 104, 101, 114, 101]⟩, .int .i64 (1 + (n : Int))], .int .i64 0]) ∧ Below w.heap.size w w' := by
  have := Get_to (stage_got h (by omega) (by omega)) v w hi
  rw [show ((n + 1 : Nat) : Int) = 1 + (n : Int) by omega] at this
  exact this
theorem Get_gone {L : List It} {g : Nat} (h : Fresh L g nev) (v : Value) (w : World) (hi : ItemsAt w v L) :
    Calls Tryd.prog 11 #[v, .int .i64 (g : Int)] w fun e w' => e = .returned (.tuple #[.agg #[.int .i64 0, .string ⟨#[]⟩, .int .i64 0], .int .i64 6]) ∧ Below w.heap.size w w' := Get_to h.gone v w hi
theorem Keep_more {L : List It} {g j : Nat} (h : Fresh L g nev) (hj : j < 32) (v : Value) (w : World) (hi : ItemsAt w v (stage L g j)) :
    Calls Tryd.prog 10 #[v, .string ⟨#[110, 101, 118, 101, 114, 32, 116, 104, 101, 114, 101]⟩] w (RetKept (stage L g (j + 1)) (g : Int) 0 w) := Keep_at (stage_keep h hj) v w hi

set_option maxRecDepth 100000 in
set_option maxHeartbeats 1000000 in
theorem walk (v : Value) (L : List Rw) (a : Int) (w : World) (h : RawsAt w v L) (hok : ∀ r ∈ L, RwOk r) (ha : -9223372036854775808 ≤ a ∧ a ≤ 9223372036854775807) :
    Calls Tryd.prog 3 #[v, .int .i64 a] w fun e w' => e = .returned (.bool true) ∧ Below w.heap.size w w' := by
  have HV := Lib.hid (Volume_at v L w h hok)
  have HA := Lib.hid ha
  obtain ⟨n, hn, hn32⟩ := pick_nat a 32 (by omega)
  have HN := Lib.hid hn
  have hw1 := IntWalk.i64_in (1 + (n : Int)) (by omega)
  clear h hok ha hn
  go_enter Tryd.func3, Tryd.ntmps3
  go_upto_region 2 with (go_at_call 8; refine HV.out.mono ?_; rintro e w1 ⟨p, c, pz, cz, V, rfl, hat, hV, hb1⟩)
  obtain ⟨G, hG⟩ : ∃ G, w1.heap.size = G := ⟨_, rfl⟩
  obtain ⟨W, hW⟩ : ∃ W, W = w1.alloc (.cells #[.slice p V.items.length c, .slice pz V.blocks.length cz] 26) := ⟨_, rfl⟩
  have g0 : W.cell? ⟨G, 0, none⟩ = some (.slice p V.items.length c) := by subst hW; subst hG; simp
  have hbW : Below w.heap.size w W := by subst hW; exact below_alloc hb1 _
  have hGW : G < W.heap.size := by subst hW; subst hG; simp
  have hI : ItemsAt W (.slice p V.items.length c) V.items := by subst hW; exact hat.items.keep (below_alloc (Below.refl _ _) _)
  rw [hG, ← hW]
  have HI := Lib.hid hI
  have hil := hV.items
  obtain ⟨g, hfr⟩ := fresh hV
  have HF := Lib.hid hfr
  clear hW hG hat hI hb1 HV hfr hV
  go_wp2_with (go_at_call 9; refine (picked_any _ _ HA.out (by omega) _).mono ?_; rw [HN.out]; rintro e w2 ⟨rfl, rfl⟩)
  have hg23 : g ≤ 23 := by have := HF.out.le; have := HF.out.len; omega
  go_loopw [7, 8, 26] (fun it idv i wr => ∃ (j : Nat) (id : Int), j ≤ n + 1 ∧ i = .int .i64 (j : Int) ∧ idv = .int .i64 id ∧ ((j = 0 ∧ id = -1) ∨ (1 ≤ j ∧ id = (g : Int))) ∧ ItemsAt wr it (stage V.items g j) ∧ Below W.heap.size W wr) (fun _ _ i _ => n + 1 - (intOf i).toNat)
  case atStart => exact ⟨0, -1, Nat.zero_le _, rfl, rfl, .inl ⟨rfl, rfl⟩, HI.out, Below.refl _ _⟩
  case round =>
    obtain ⟨j, id, hj, rfl, rfl, hid, hit, hb⟩ := hrel
    rename_i it
    by_cases hlt : j < n + 1
    · have HIT := Lib.hid hit
      clear hit
      have hln : ((stage V.items g (j + 1)).length) ≤ 1000 := by rw [stage_len HF.out]; split <;> omega
      rcases hid with ⟨h0, rfl⟩ | ⟨h1, rfl⟩
      · go_wp2_with (go_at_call 10; refine (Keep_more HF.out (by omega) _ _ HIT.out).mono ?_; rintro e w3 ⟨v3, rfl, ho3⟩; have HI3 := Lib.hid (ho3.items (by omega)); have hb3 := ho3.below; clear ho3)
        go_roundw
        case rel => exact ⟨j + 1, (g : Int), by omega, by go_num, rfl, .inr ⟨by omega, rfl⟩, HI3.out, below_then hb hb3⟩
        case measure => simp [intOf]; omega
      · have hg0 : (0 : Int) ≤ (g : Int) := by omega
        go_wp2_with (go_at_call 10; refine (Keep_more HF.out (by omega) _ _ HIT.out).mono ?_; rintro e w3 ⟨v3, rfl, ho3⟩; have HI3 := Lib.hid (ho3.items (by omega)); have hb3 := ho3.below; clear ho3)
        go_roundw
        case rel => exact ⟨j + 1, (g : Int), by omega, by go_num, rfl, .inr ⟨by omega, rfl⟩, HI3.out, below_then hb hb3⟩
        case measure => simp [intOf]; omega
    · have hj1 : j = n + 1 := by omega
      subst hj1
      obtain rfl : id = (g : Int) := by rcases hid with ⟨h0, _⟩ | ⟨_, h1⟩; omega; exact h1
      have hit2 := hit
      obtain ⟨p1, c1, rfl, _⟩ := hit2
      rw [stage_len HF.out, if_neg (by omega)] at hit ⊢
      have HIT := Lib.hid hit
      clear hit hid
      have hwl := IntWalk.i64_in ((V.items.length : Int) + 1) (by omega)
      go_wp2_with (go_at_call 11; refine (Get_full HF.out (by omega) _ _ HIT.out).mono ?_; rintro e w3 ⟨rfl, hb3⟩; have hb13 := below_then hb hb3; have e0 := (hb13.cell (p := ⟨G, 0, none⟩) hGW).trans g0; have hG3 := Nat.lt_of_lt_of_le hGW hb13.size)
      obtain ⟨W3, hW3⟩ : ∃ W3, W3 = w3.alloc (.cells #[.int .i64 (g : Int), .string ⟨#[110, 101, 118, 101, 114, 32, 116, 104, 101, 114, 101]⟩, .int .i64 (1 + (n : Int))] 33) := ⟨_, rfl⟩
      have hb4 : Below W.heap.size W W3 := by rw [hW3]; exact hb13.alloc hb13.size _
      have hi4 : ItemsAt W3 (.slice p1 (V.items.length + 1) c1) (stage V.items g (n + 1)) := by rw [hW3]; exact HIT.out.keep (below_alloc hb3 _)
      have HI4 := Lib.hid hi4
      clear hi4
      try rw [← hW3]
      clear hW3 hb3 hb13 e0 hG3 HIT hb hlt hj hwl
      go_loopw [7, 86] (fun it i wr => ∃ (j : Nat) (vi : Value), j ≤ n + 1 ∧ i = .int .i64 (j : Int) ∧ vi = it ∧ ItemsAt wr vi (stage V.items g (n + 1 - j)) ∧ Below W.heap.size W wr) (fun _ i _ => n + 1 - (intOf i).toNat)
      case atStart => exact ⟨0, _, Nat.zero_le _, rfl, rfl, HI4.out, hb4⟩
      case round =>
        clear HI4 hb4
        obtain ⟨j, it, hj, rfl, rfl, hit, hb⟩ := hrel
        by_cases hlt : j < n + 1
        · rw [show n + 1 - j = (n - j) + 1 by omega] at hit
          have HIT := Lib.hid hit
          have hdr := stage_drop HF.out (j := n - j) (by omega)
          have HD := Lib.hid hdr
          have hln : ((stage V.items g (n - j)).length) ≤ 1000 := by rw [stage_len HF.out]; split <;> omega
          clear hit hdr
          go_wp2_with (go_at_call 12; refine (Drop_at HD.out _ _ HIT.out).mono ?_; rintro e w5 ⟨v5, rfl, ho5⟩; have HI5 := Lib.hid (ho5.items (by omega)); have hb5 := ho5.below; clear ho5)
          go_roundw
          case rel => exact ⟨j + 1, _, by omega, by go_num, rfl, by rw [show n + 1 - (j + 1) = n - j by omega]; exact HI5.out, below_then hb hb5⟩
          case measure => simp [intOf]; omega
        · have h0 : n + 1 - j = 0 := by omega
          rw [h0] at hit
          have hit' : ItemsAt wr it V.items := hit
          have HIT := Lib.hid hit'
          have e0 := (hb.cell (p := ⟨G, 0, none⟩) hGW).trans g0
          have hG3 := Nat.lt_of_lt_of_le hGW hb.size
          clear hit hit' h0
          go_wp2_with (first
            | (go_at_call 11; refine (Get_gone HF.out _ _ HIT.out).mono ?_; rintro e w6 ⟨rfl, hb6⟩; have e1 := (hb6.cell (p := ⟨G, 0, none⟩) hG3).trans e0; have hG6 := Nat.lt_of_lt_of_le hG3 hb6.size)
            | (go_at_call 13; refine (EqualI_any _ _ V.items _ (HIT.out.keep (below_alloc hb6 _)) (HI.out.keep (below_then hb (below_alloc hb6 _)))).mono ?_; rintro e w7 ⟨rfl, hb7⟩))
          go_ret
          exact ⟨rfl, below_then (below_then (below_then hbW hb) (below_alloc hb6 _)) hb7⟩
end Go.Proofs.YtajjhjabehiikabDoor.itemsOnce
