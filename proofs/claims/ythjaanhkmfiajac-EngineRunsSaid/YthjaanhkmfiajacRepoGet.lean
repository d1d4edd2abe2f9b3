/- repo.Get: what it returns. Condition: none but that the slice is one of items. -/
import Derived.Test.YthjaanhkmfiajacRepoFind
namespace Go.Proofs.Ythjaanhkmfiajac
open Go.RowKit

set_option maxRecDepth 100000 in
theorem Get_any (v : Value) (L : List It) (id : Int) (w : World) (h : ItemsAt w v L) :
    Calls Try.prog 58 #[v, .int .i64 id] w fun e w' => e = .returned (.tuple #[(got L id).1.val, .int .i64 (got L id).2]) ∧ Below w.heap.size w w' := by
  have h' := h
  obtain ⟨p, cap, rfl, hl, _, hc⟩ := h'
  have HI := Lib.hid h
  have HC := Lib.hid hc
  clear hc h
  cases hm : mayB L with
  | false =>
    have hg := got_bad (id := id) hm
    have hf := found_bad (id := id) hm
    have HG := Lib.hid hg
    have HF := Lib.hid hf
    clear hg hm hf
    go_enter Try.func58, Try.ntmps58
    go_wp2_with (go_at_call 72; refine (find_at HF.out _ _ (HI.out.keep (below_alloc (Below.refl _ _) _))).mono ?_; rintro e w1 ⟨rfl, hb1⟩; obtain ⟨q0, q1, q2, f0, f1, f2, hz⟩ := blk3 hb1)
    refine bodyPost_ret (v := .tuple #[.agg #[.int .i64 0, .string ⟨#[]⟩, .int .i64 0], .int .i64 7]) (by simp [results, Try.results58, go_sem, q0, q1, q2]) rfl ⟨ret_got HG.out, below_set3 (below_box hb1) _ _ _⟩
  | true =>
    cases hp : pos L id with
    | none =>
      have hg := got_none hm hp
      have hf := found_none hm hp
      have HG := Lib.hid hg
      have HF := Lib.hid hf
      clear hg hm hp hf
      go_enter Try.func58, Try.ntmps58
      go_wp2_with (go_at_call 72; refine (find_at HF.out _ _ (HI.out.keep (below_alloc (Below.refl _ _) _))).mono ?_; rintro e w1 ⟨rfl, hb1⟩; obtain ⟨q0, q1, q2, f0, f1, f2, hz⟩ := blk3 hb1)
      refine bodyPost_ret (v := .tuple #[.agg #[.int .i64 0, .string ⟨#[]⟩, .int .i64 0], .int .i64 6]) (by simp [results, Try.results58, go_sem, q0, q1, q2]) rfl ⟨ret_got HG.out, below_set3 (below_box hb1) _ _ _⟩
    | some k =>
      obtain ⟨x, hx, hxid⟩ := pos_lt hp
      have hk := (List.getElem?_eq_some_iff.1 hx).1
      obtain ⟨b, off, rfl, hbl, c0, c1, c2⟩ := HC.out k x hx
      have hg := got_some hm hp hx
      have hf := found_some hm hp
      have HG := Lib.hid hg
      have HF := Lib.hid hf
      have HX := Lib.hid hx
      have C0 := Lib.hid c0
      have C1 := Lib.hid c1
      have C2 := Lib.hid c2
      clear hg hm hp hf hx hxid c0 c1 c2 HC
      go_enter Try.func58, Try.ntmps58
      go_wp2_with (go_at_call 72; refine (find_at HF.out _ _ (HI.out.keep (below_alloc (Below.refl _ _) _))).mono ?_; rintro e w1 ⟨rfl, hb1⟩; obtain ⟨q0, q1, q2, f0, f1, f2, hz⟩ := blk3 hb1; have c0 := ((below_box hb1).cell (p := ⟨b, _, none⟩) hbl).trans C0.out; have c1 := ((below_box hb1).cell (p := ⟨b, _, none⟩) hbl).trans C1.out; have c2 := ((below_box hb1).cell (p := ⟨b, _, none⟩) hbl).trans C2.out)
      refine bodyPost_ret (v := .tuple #[.agg #[.int .i64 x.id, .string x.data, .int .i64 x.refs], .int .i64 0]) (by simp [results, Try.results58, go_sem, q0, q1, q2]) rfl ⟨ret_got HG.out, below_set3 (below_box hb1) _ _ _⟩
end Go.Proofs.Ythjaanhkmfiajac
