/- The document's GotOf: what it returns. No condition. -/
import Derived.Test.YtajjhjabehiikabRefItems
import Derived.Test.YtajjhjabehiikabUsedMath
namespace Go.Proofs.Ytajjhjabehiikab
open Go.RowKit

set_option maxRecDepth 100000 in
theorem GotOf_any (v : Value) (L : List It) (id : Int) (w : World) (h : ItemsAt w v L) :
    Calls Try.prog 47 #[v, .int .i64 id] w fun e w' => e = .returned (.tuple #[(got L id).1.val, .int .i64 (got L id).2]) ∧ Below w.heap.size w w' := by
  have h' := h
  obtain ⟨p, cap, rfl, hl, _, hc⟩ := h'
  have HI := Lib.hid h
  have HC := Lib.hid hc
  clear hc h
  cases hm : mayB L with
  | false =>
    have hg := got_bad (id := id) hm
    have HG := Lib.hid hg
    have HM := Lib.hid hm
    clear hg hm
    go_enter Try.func47, Try.ntmps47
    go_wp2_with (go_at_call 44; refine (ItemsMay_any _ L _ (HI.out.keep ((Below.refl _ _).alloc (Nat.le_refl _) _))).mono ?_; rw [HM.out]; rintro e w1 ⟨rfl, hb1⟩; obtain ⟨q0, q1, q2, f0, f1, f2, hz⟩ := blk3 hb1)
    refine bodyPost_ret (v := .tuple #[.agg #[.int .i64 0, .string ⟨#[]⟩, .int .i64 0], .int .i64 7]) (by simp [results, Try.results47, go_sem, q0, q1, q2]) rfl ⟨ret_got HG.out, below_set3 (below_box hb1) _ _ _⟩
  | true =>
    have HM := Lib.hid hm
    cases hp : pos L id with
    | none =>
      have hg := got_none hm hp
      have HG := Lib.hid hg
      have HP := Lib.hid (posInt_none hp)
      clear hg hm hp
      go_enter Try.func47, Try.ntmps47
      go_wp2_with (first
        | (go_at_call 44; refine (ItemsMay_any _ L _ (HI.out.keep ((Below.refl _ _).alloc (Nat.le_refl _) _))).mono ?_; rw [HM.out]; rintro e w1 ⟨rfl, hb1⟩; obtain ⟨q0, q1, q2, f0, f1, f2, hz⟩ := blk3 hb1)
        | (go_at_call 46; refine (itemAt_any _ L id _ (HI.out.keep (below_box hb1))).mono ?_; rw [HP.out]; rintro e w2 ⟨rfl, rfl⟩))
      refine bodyPost_ret (v := .tuple #[.agg #[.int .i64 0, .string ⟨#[]⟩, .int .i64 0], .int .i64 6]) (by simp [results, Try.results47, go_sem, q0, q1, q2]) rfl ⟨ret_got HG.out, below_set3 (below_box hb1) _ _ _⟩
    | some k =>
      obtain ⟨x, hx, hxid⟩ := pos_lt hp
      have hk := (List.getElem?_eq_some_iff.1 hx).1
      obtain ⟨b, off, rfl, hbl, c0, c1, c2⟩ := HC.out k x hx
      have hg := got_some hm hp hx
      have HG := Lib.hid hg
      have HP := Lib.hid (posInt_some hp)
      have HX := Lib.hid hx
      have C0 := Lib.hid c0
      have C1 := Lib.hid c1
      have C2 := Lib.hid c2
      clear hg hm hp hx hxid c0 c1 c2 HC
      go_enter Try.func47, Try.ntmps47
      go_wp2_with (first
        | (go_at_call 44; refine (ItemsMay_any _ L _ (HI.out.keep ((Below.refl _ _).alloc (Nat.le_refl _) _))).mono ?_; rw [HM.out]; rintro e w1 ⟨rfl, hb1⟩; obtain ⟨q0, q1, q2, f0, f1, f2, hz⟩ := blk3 hb1; have c0 := ((below_box hb1).cell (p := ⟨b, _, none⟩) hbl).trans C0.out; have c1 := ((below_box hb1).cell (p := ⟨b, _, none⟩) hbl).trans C1.out; have c2 := ((below_box hb1).cell (p := ⟨b, _, none⟩) hbl).trans C2.out)
        | (go_at_call 46; refine (itemAt_any _ L id _ (HI.out.keep (below_box hb1))).mono ?_; rw [HP.out]; rintro e w2 ⟨rfl, rfl⟩))
      refine bodyPost_ret (v := .tuple #[.agg #[.int .i64 x.id, .string x.data, .int .i64 x.refs], .int .i64 0]) (by simp [results, Try.results47, go_sem, q0, q1, q2]) rfl ⟨ret_got HG.out, below_set3 (below_box hb1) _ _ _⟩

theorem GotOf_at {L : List It} {id n : Int} {x : It} (hg : got L id = (x, n)) (v : Value) (w : World) (h : ItemsAt w v L) :
    Calls Try.prog 47 #[v, .int .i64 id] w fun e w' => e = .returned (.tuple #[.agg #[.int .i64 x.id, .string x.data, .int .i64 x.refs], .int .i64 n]) ∧ Below w.heap.size w w' := by
  have := GotOf_any v L id w h
  rw [hg] at this
  exact this

theorem GotOf_err {L : List It} {id n : Int} (hg : got L id = (It.zero, n)) (v : Value) (w : World) (h : ItemsAt w v L) :
    Calls Try.prog 47 #[v, .int .i64 id] w fun e w' => e = .returned (.tuple #[.agg #[.int .i64 0, .string ⟨#[]⟩, .int .i64 0], .int .i64 n]) ∧ Below w.heap.size w w' :=
  GotOf_at hg v w h
end Go.Proofs.Ytajjhjabehiikab
