/- Small facts on strings at this translation: slices by a byte, texts of one or two bytes, concatenation. Conditions: those in the statements. -/
import Derived.Test.YthjaanhkmfiajabDoorRows
import Derived.WalkKit
import Derived.Laws.IdiomStrings
import Derived.Laws.Concat
namespace Go.Proofs.YthjaanhkmfiajabDoor
open Go.RowKit

theorem slice_at (s : ByteArray) (i : Nat) (hi : i < s.size) (W : World) :
    (Instr.slice 9 (.string s) (some (.int .i64 (i : Int))) (some (.int .i64 ((i : Int) + 1))) none).run Tryd.prog W = .ok (.string (s.extract i (i + 1))) W := by
  rw [run_slice_string W 9 s .i64 .i64 _ _ Tryd.underlying9 (by omega) (by omega) (by omega)]
  rw [show ((i : Int) + 1).toNat = i + 1 by omega, show ((i : Int)).toNat = i by omega]

/-- 'string([]byte{c})' -/
theorem conv_one (z : Int) (c : UInt8) (hz : z = c.toNat) (W : World) :
    (convert 66 9 (.slice (some ⟨W.heap.size, 0, none⟩) 1 1)).run Tryd.prog (W.alloc (.cells #[.int .u8 z] 5)) = .ok (.string ⟨#[c]⟩) (W.alloc (.cells #[.int .u8 z] 5)) := by
  subst hz
  refine run_convert_bytes_back (P := Tryd.prog) _ 66 9 5 ⟨W.heap.size, 0, none⟩ 1 [c] Tryd.underlying66 Tryd.underlying5 Tryd.underlying9 ?_
  intro j hj
  match j, hj with
  | 0, _ => simp [Addr.add]

/-- 'string([]byte{c, d})' -/
theorem conv_two (z y : Int) (c d : UInt8) (hz : z = c.toNat) (hy : y = d.toNat) (W : World) :
    (convert 66 9 (.slice (some ⟨W.heap.size, 0, none⟩) 2 2)).run Tryd.prog (W.alloc (.cells #[.int .u8 z, .int .u8 y] 5)) = .ok (.string ⟨#[c, d]⟩) (W.alloc (.cells #[.int .u8 z, .int .u8 y] 5)) := by
  subst hz hy
  refine run_convert_bytes_back (P := Tryd.prog) _ 66 9 5 ⟨W.heap.size, 0, none⟩ 2 [c, d] Tryd.underlying66 Tryd.underlying5 Tryd.underlying9 ?_
  intro j hj
  match j, hj with
  | 0, _ => simp [Addr.add]
  | 1, _ => simp [Addr.add]

theorem conv_two_next (z y : Int) (c d : UInt8) (hz : z = c.toNat) (hy : y = d.toNat) (W : World) (o : Obj) :
    (convert 66 9 (.slice (some ⟨W.heap.size + 1, 0, none⟩) 2 2)).run Tryd.prog ((W.alloc o).alloc (.cells #[.int .u8 z, .int .u8 y] 5)) = .ok (.string ⟨#[c, d]⟩) ((W.alloc o).alloc (.cells #[.int .u8 z, .int .u8 y] 5)) := by
  have h := conv_two z y c d hz hy (W.alloc o)
  rw [show (W.alloc o).heap.size = W.heap.size + 1 by simp] at h
  exact h

theorem cat_eq (a b : ByteArray) : (a ++ b).data.toList = a.data.toList ++ b.data.toList := by simp

end Go.Proofs.YthjaanhkmfiajabDoor
