/- Package engine: find, by sort.Search: the place of a block among writes in the order of blocks. Condition: the writes are in order, at most twelve. -/
import Derived.Test.YthjaanhkmfiajacEngPure
import Derived.Test.YthjaanhkmfiajacPure
import Derived.Test.YthjaanhkmfiajacChecked
import Derived.Deep.QuietTactic
import Derived.Deep.LoopGhost
import Derived.BigQuiet
import Derived.IntWalk
import Derived.Lib.Hide
import Derived.Deep.Cut
namespace Go.Proofs.Ythjaanhkmfiajac
open Go.RowKit

set_option maxRecDepth 100000 in
theorem pred_any (u : Value) (L : List Wr) (b : Int) (k : Nat) (x : Wr) (B C : Nat) (w : World) (h : WritesAt w u L) (hx : L[k]? = some x)
    (hB : w.cell? ⟨B, 0, none⟩ = some u) (hC : w.cell? ⟨C, 0, none⟩ = some (.int .i64 b)) :
    Calls Try.prog 53 #[.int .i64 (k : Int), .pointer (some ⟨B, 0, none⟩), .pointer (some ⟨C, 0, none⟩)] w fun e w' => e = .returned (.bool (decide (b ≤ x.block))) ∧ Below w.heap.size w w' := by
  obtain ⟨p, cap, rfl, hl, _, hc⟩ := h
  obtain ⟨bk, off, rfl, hbl, c0, _⟩ := hc k x hx
  have hk := (List.getElem?_eq_some_iff.1 hx).1
  have hi0 : (0 : Int) ≤ (k : Int) := by omega
  have hi1 : (k : Int) < (L.length : Int) := by omega
  clear hc hx
  go_enter Try.func53, Try.ntmps53
  go_wp2
  go_quiet (fail)
  go_wp2
  go_ret
  exact ⟨rfl, below_dr (Below.refl _ _) _⟩

/-- what find$1 says of one place -/
def SearchSt (L : List Wr) (b : Int) (lo hi : Nat) : Prop := (∀ (p : Nat) (x : Wr), p < lo → L[p]? = some x → x.block < b) ∧ ∀ (p : Nat) (x : Wr), hi ≤ p → L[p]? = some x → b ≤ x.block
/-- the answer of a search -/
def SearchRet (L : List Wr) (b : Int) (w : World) (e : Ending) (w' : World) : Prop := ∃ i, Place L b i ∧ e = .returned (.int .i64 (i : Int)) ∧ Below w.heap.size w w'

set_option maxRecDepth 100000 in
set_option maxHeartbeats 1000000 in
theorem Search_any (u : Value) (L : List Wr) (b : Int) (B C : Nat) (w : World) (h : WritesAt w u L) (hp : L.Pairwise (fun x y => x.block < y.block)) (h12 : L.length ≤ 12)
    (hB : w.cell? ⟨B, 0, none⟩ = some u) (hBl : B < w.heap.size) (hC : w.cell? ⟨C, 0, none⟩ = some (.int .i64 b)) (hCl : C < w.heap.size) :
    Calls Try.prog 52 #[.int .i64 (L.length : Int), .func (.func 53) #[] #[.pointer (some ⟨B, 0, none⟩), .pointer (some ⟨C, 0, none⟩)]] w (SearchRet L b w) := by
  have HH := Lib.hid h
  have HP := Lib.hid hp
  have HB := Lib.hid hB
  have HC := Lib.hid hC
  clear h hp hB hC
  go_enter Try.func52, Try.ntmps52
  go_wp2
  go_loopg [5, 6] L.length (fun kx s5 s6 wr => ∃ (lo hi : Nat), s5 = .int .i64 lo ∧ s6 = .int .i64 hi ∧ lo ≤ hi ∧ hi ≤ L.length ∧ hi - lo ≤ kx ∧ Below w.heap.size w wr ∧ Hid (SearchSt L b lo hi))
  case atStart => exact ⟨0, L.length, rfl, rfl, Nat.zero_le _, Nat.le_refl _, by omega, Below.refl _ _, Lib.hid ⟨fun p x hp => absurd hp (Nat.not_lt_zero _), fun p x hp hx => by have := (List.getElem?_eq_some_iff.1 hx).1; omega⟩⟩
  case round =>
    obtain ⟨lo, hi, rfl, rfl, hlh, hin, hg, hb, HI⟩ := hrel
    by_cases hlt : lo < hi
    · obtain ⟨x, hx⟩ : ∃ x, L[(lo + hi) / 2]? = some x := ⟨_, List.getElem?_eq_getElem (by omega)⟩
      have hc := pred_any u L b ((lo + hi) / 2) x B C wr (HH.out.keep hb) hx ((hb.cell (p := ⟨B, 0, none⟩) hBl).trans HB.out) ((hb.cell (p := ⟨C, 0, none⟩) hCl).trans HC.out)
      rw [show (((lo + hi) / 2 : Nat) : Int) = ((lo : Int) + (hi : Int)) / 2 by omega] at hc
      have HX := Lib.hid hx
      clear hx
      by_cases ht : b ≤ x.block
      · have hd : decide (b ≤ x.block) = true := by simpa using ht
        rw [hd] at hc
        have HCC := Lib.hid hc
        have HT := Lib.hid ht
        clear hd hc ht
        go_wp2_with (go_at_call 53; refine HCC.out.mono ?_; rintro e w1 ⟨rfl, hb1⟩)
        go_roundg ((lo + hi) / 2 - lo)
        case measure => omega
        case rel => exact ⟨lo, (lo + hi) / 2, rfl, by rw [show ((lo : Int) + (hi : Int)) / 2 = (((lo + hi) / 2 : Nat) : Int) by omega], by omega, by omega, Nat.le_refl _, below_then hb hb1, Lib.hid ⟨HI.out.1, hi_step HP.out HX.out HT.out⟩⟩
      · have hd : decide (b ≤ x.block) = false := by simpa using ht
        rw [hd] at hc
        have HCC := Lib.hid hc
        have ht' : x.block < b := by omega
        have HT := Lib.hid ht'
        clear hd hc ht ht'
        go_wp2_with (go_at_call 53; refine HCC.out.mono ?_; rintro e w1 ⟨rfl, hb1⟩)
        go_roundg (hi - ((lo + hi) / 2 + 1))
        case measure => omega
        case rel => exact ⟨(lo + hi) / 2 + 1, hi, by rw [show ((lo : Int) + (hi : Int)) / 2 + 1 = (((lo + hi) / 2 + 1 : Nat) : Int) by omega], rfl, by omega, hin, Nat.le_refl _, below_then hb hb1, Lib.hid ⟨lo_step HP.out HX.out HT.out, HI.out.2⟩⟩
    · obtain rfl : hi = lo := by omega
      go_wp2
      go_ret
      exact ⟨hi, ⟨hin, HI.out.1, HI.out.2⟩, rfl, hb⟩

/-- the answer of find -/
def FindRet (L : List Wr) (b : Int) (w : World) (e : Ending) (w' : World) : Prop := ∃ i, Place L b i ∧ e = .returned (.tuple #[.int .i64 (i : Int), .bool (foundB L b i)]) ∧ Below w.heap.size w w'

set_option maxRecDepth 100000 in
set_option maxHeartbeats 1000000 in
theorem efind_any (u : Value) (L : List Wr) (b : Int) (w : World) (h : WritesAt w u L) (hp : L.Pairwise (fun x y => x.block < y.block)) (h12 : L.length ≤ 12) :
    Calls Try.prog 34 #[u, .int .i64 b] w (FindRet L b w) := by
  have h' := h
  obtain ⟨p, cap, rfl, _, _, _⟩ := h'
  have hbx : Below w.heap.size w ((w.alloc (.cells #[.slice p L.length cap] 37)).alloc (.cells #[.int .i64 b] 3)) := below_alloc (below_alloc (Below.refl _ _) _) _
  have hS := Search_any (.slice p L.length cap) L b w.heap.size (w.heap.size + 1) _ (h.keep hbx) hp h12 (by simp) (by simp; omega) (by simp) (by simp)
  have HS := Lib.hid hS
  have HH := Lib.hid h
  clear hS h hp
  go_enter Try.func34, Try.ntmps34
  go_upto_region 2 with (go_at_call 52; refine HS.out.mono ?_; rintro e w1 ⟨i, hpl, rfl, hb1⟩)
  obtain ⟨c0, c1, _, _, _⟩ : w1.cell? ⟨w.heap.size, 0, none⟩ = some (.slice p L.length cap) ∧ w1.cell? ⟨w.heap.size + 1, 0, none⟩ = some (.int .i64 b) ∧ True ∧ True ∧ True :=
    ⟨(hb1.cell (p := ⟨w.heap.size, 0, none⟩) (by simp; omega)).trans (by simp), (hb1.cell (p := ⟨w.heap.size + 1, 0, none⟩) (by simp)).trans (by simp), trivial, trivial, trivial⟩
  have hb2 : Below w.heap.size w w1 := hbx.trans (hb1.mono (by simp; omega))
  have hle := hpl.le
  have HPL := Lib.hid hpl
  by_cases hlt : i < L.length
  · obtain ⟨x, hx⟩ : ∃ x, L[i]? = some x := ⟨_, List.getElem?_eq_getElem hlt⟩
    obtain ⟨p', cap', he, _, _, hc⟩ := HH.out
    cases he
    obtain ⟨bk, off, rfl, hbl, d0, _⟩ := hc i x hx
    replace d0 := (hb2.cell (p := ⟨bk, _, none⟩) hbl).trans d0
    have hf := foundB_some (b := b) hx
    have HF := Lib.hid hf
    have t1 : decide (i < L.length) = true := by simpa using hlt
    have hi0 : (0 : Int) ≤ (i : Int) := by omega
    have hi1 : (i : Int) < (L.length : Int) := by omega
    clear hc hx hf hpl
    by_cases hxb : x.block = b
    all_goals
      have HXB := Lib.hid hxb
      clear hxb
      go_quiet (fail)
      go_wp2
      go_ret2
      refine ⟨i, HPL.out, ?_, below_dr hb2 _⟩
      rw [HF.out]
      have := HXB.out
      simp [this]
  · have hf := foundB_none (b := b) hlt
    have HF := Lib.hid hf
    have t1 : decide (i < L.length) = false := by simpa using hlt
    clear hf hpl
    go_quiet (fail)
    go_wp2
    go_ret2
    exact ⟨i, HPL.out, by rw [HF.out]; simp, below_dr hb2 _⟩
end Go.Proofs.Ythjaanhkmfiajac
