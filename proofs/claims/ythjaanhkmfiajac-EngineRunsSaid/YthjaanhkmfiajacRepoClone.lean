/- slices.Clone at items, repo.addUse: what they return. Condition: the size of what is cloned; else none but that the slice is one of items. -/
import Derived.Test.YthjaanhkmfiajacRepoFind
import Derived.Lib.SliceRun
namespace Go.Proofs.Ythjaanhkmfiajac
open Go.RowKit

set_option maxRecDepth 100000 in
set_option maxHeartbeats 1000000 in
theorem Clone_any (v : Value) (L : List It) (w : World) (h : ItemsAt w v L) (hlen : L.length * 32 ≤ 140737488355328) :
    Calls Try.prog 17 #[v] w fun e w' => ∃ v', e = .returned v' ∧ OwnI w.heap.size 55 v' L w w' := by
  obtain ⟨i0, hi, hz0, hz1, hz2⟩ := info_parts Try.infoItem
  have h' := h
  obtain ⟨p, cap, rfl, hl, hn, hc⟩ := h'
  have HI := Lib.hid h
  clear h
  have q22 : ∀ (w : World) (a : Option Addr) (n c n' c' : Nat), (binOp .eql 24 (.slice a n c) (.slice none n' c')).run Try.prog w = .ok (.bool a.isNone) w := fun w a n c n' c' => Lib.run_eql_slice_nil w _ _ a n c n' c' Try.underlying24
  cases p with
  | none =>
    have hL : L = [] := by
      cases L with
      | nil => rfl
      | cons y M => obtain ⟨_, _, hp, _⟩ := hc 0 y rfl; cases hp
    subst hL
    obtain rfl := hn rfl
    clear hc hn
    go_enter Try.func17, Try.ntmps17
    go_wp2
    go_ret
    exact ⟨_, rfl, OwnI.nil (Below.refl _ _) (Nat.le_refl _)⟩
  | some ad =>
    clear hc hn
    have h0 : OwnI w.heap.size 55 (.slice (some ⟨w.heap.size, 0, none⟩) 0 0) [] w (w.alloc (.cells #[] 55)) := ⟨World.ownsRow_made w #[] 0 (Nat.le_refl _) (Nat.zero_le _) rfl, below_alloc (Below.refl _ _) _, by simp⟩
    have H0 := Lib.hid h0
    clear h0
    go_enter Try.func17, Try.ntmps17
    go_wp2_with (at_builtin; refine wpList_own_items rfl _ _ 24 rfl w.heap.size 55 i0 _ Try.underlying24 hi hz0 rfl hz1 hz2 _ [] rfl w L _ H0.out (HI.out.keep (below_alloc (Below.refl _ _) _)) rfl (by simp; omega) ?_; intro v2 w2 hown2)
    go_ret
    exact ⟨_, rfl, hown2.cast (by simp)⟩

theorem RetItems.lower {M : List It} {n : Int} {w w1 : World} {e : Ending} {w' : World} (h : RetItems M n w1 e w') (hb : Below w.heap.size w w1) : RetItems M n w e w' := by
  obtain ⟨v, he, ho⟩ := h
  exact ⟨v, he, ho.lower hb.size hb⟩

set_option maxRecDepth 100000 in
set_option maxHeartbeats 1000000 in
theorem addUse_full (v : Value) (L : List It) (k : Nat) (x : It) (w : World) (h : ItemsAt w v L) (hx : L[k]? = some x) (hr : x.refs = 32) :
    Calls Try.prog 84 #[v, .int .i64 (k : Int)] w (RetItems [] 1 w) := by
  obtain ⟨p, cap, rfl, hl, hn, hc⟩ := h
  obtain ⟨b, off, rfl, hbl, c0, c1, c2⟩ := hc k x hx
  have hk := (List.getElem?_eq_some_iff.1 hx).1
  rw [hr] at c2
  clear hc hn hx c0 c1
  go_enter Try.func84, Try.ntmps84
  go_wp2
  go_ret2
  exact ⟨_, rfl, OwnI.nil (Below.refl _ _) (Nat.le_refl _)⟩

set_option maxRecDepth 100000 in
set_option maxHeartbeats 1000000 in
theorem addUse_some (v : Value) (L : List It) (k : Nat) (x : It) (w : World) (h : ItemsAt w v L) (hx : L[k]? = some x) (hr1 : 1 ≤ x.refs) (hr : x.refs < 32) (hlen : L.length ≤ 24) :
    Calls Try.prog 84 #[v, .int .i64 (k : Int)] w (RetItems (L.set k { x with refs := x.refs + 1 }) 0 w) := by
  have h' := h
  obtain ⟨p, cap, rfl, hl, hn, hc⟩ := h'
  obtain ⟨b, off, rfl, hbl, c0, c1, c2⟩ := hc k x hx
  have hk := (List.getElem?_eq_some_iff.1 hx).1
  have HI := Lib.hid h
  have HX := Lib.hid hx
  have hw := IntWalk.i64_in (x.refs + 1) (by omega)
  have ht : (x.refs == 32) = false := by have : x.refs ≠ 32 := by omega
                                         simpa using this
  clear hc hn hx c0 c1 h
  go_enter Try.func84, Try.ntmps84
  go_wp2_with (go_at_call 17; refine (Clone_any _ L _ HI.out (by omega)).mono ?_; rintro e w2 ⟨v2, rfl, hown2⟩; obtain ⟨g, cap2, rfl, hg1, hg2, hcap⟩ := hown2.shape (by omega); obtain ⟨d0, d1, d2, df, _⟩ := hown2.cell HX.out; have HOWN := Lib.hid hown2; clear hown2)
  go_ret2
  exact ⟨_, rfl, HOWN.out.setRefs HX.out (x.refs + 1)⟩
end Go.Proofs.Ythjaanhkmfiajac
