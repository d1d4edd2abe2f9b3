/- A row of bytes that a call owns, told by a list of bytes: two more laws beside the kit's (append of two bytes; reading it back as a string). No condition. -/
import Derived.Lib.BufSteps
import Derived.Lib.BufferRead
import Derived.Laws.IdiomStrings
import Derived.WalkKit
namespace Go.Proofs.Ythjaanhkmfiajac
open Go.RowKit Go.Lib

/-- the cells that hold the bytes l -/
def bcells (l : List UInt8) : List Value := l.map fun b => Value.int .u8 b.toNat
theorem bcells_length (l : List UInt8) : (bcells l).length = l.length := by simp [bcells]
theorem bcells_append (a b : List UInt8) : bcells (a ++ b) = bcells a ++ bcells b := by simp [bcells]
theorem bcells_str (s : ByteArray) : strCells s = bcells s.data.toList := rfl

/-- v is the call's own row of the bytes l -/
def OwnB (B : Nat) (e : TypeId) (v : Value) (l : List UInt8) (W0 w : World) : Prop := OwnBuf B e v l.length (bcells l) W0 w

theorem OwnB.nil {B : Nat} {e : TypeId} {w : World} (h : B ≤ w.heap.size) : OwnB B e (.slice none 0 0) [] w w := ⟨World.ownsRowF_nil _ _ _ _, Below.refl _ _, h⟩
theorem OwnB.cast {B : Nat} {e : TypeId} {v : Value} {l l' : List UInt8} {W0 w : World} (h : OwnB B e v l W0 w) (hl : l = l') : OwnB B e v l' W0 w := hl ▸ h
theorem OwnB.below {B : Nat} {e : TypeId} {v : Value} {l : List UInt8} {W0 w : World} (h : OwnB B e v l W0 w) : Below B W0 w := h.2.1
theorem OwnB.size {B : Nat} {e : TypeId} {v : Value} {l : List UInt8} {W0 w : World} (h : OwnB B e v l W0 w) : B ≤ w.heap.size := h.2.2
theorem OwnB.alloc {B : Nat} {e : TypeId} {v : Value} {l : List UInt8} {W0 w : World} (h : OwnB B e v l W0 w) (o : Obj) : OwnB B e v l W0 (w.alloc o) := OwnBuf.alloc h o

/-- a call that leaves all that was there -/
theorem OwnB.past {B : Nat} {e : TypeId} {v : Value} {l : List UInt8} {W0 w w' : World} (h : OwnB B e v l W0 w) (hb : Below w.heap.size w w') : OwnB B e v l W0 w' := by
  obtain ⟨h1, h2, h3⟩ := h
  refine ⟨⟨h1.1, ?_⟩, h2.trans (hb.mono h3), Nat.le_trans h3 hb.size⟩
  rcases h1.2 with hn | ⟨g, cap, cur, fz, hv, hB, hg, rest⟩
  · exact .inl hn
  · exact .inr ⟨g, cap, cur, fz, hv, hB, by rw [hb.block g (Array.getElem?_eq_some_iff.1 hg).1]; exact hg, rest⟩

section
variable {P : Program}

/-- one byte more -/
theorem wpList_own_one {ops : Array Oper} {rest : List Oper} {o : Oper} {a : Act} {Q : Exit → Act → World → Prop} (hgd : o.guard = none) (s x : Operand) (t : TypeId)
    (ho : o.op = .call { callee := .builtin .append, args := #[s, x], argTypes := #[t, t] })
    (B : Nat) (e : TypeId) (i : TypeInfo) (ht : P.underlying t = some (.slice e)) (hi : P.info? e = some i) (hz : i.zero = some (.int .u8 0)) (hsize : i.size = 1) (hby : i.bytes = 1)
    (v : Value) (l : List UInt8) (hs : a.eval s = v) (W0 w0 : World) (c : UInt8) (z : Int) (hzc : z = c.toNat) (hb : OwnB B e v l W0 w0)
    (hx : a.eval x = .slice (some ⟨w0.heap.size, 0, none⟩) 1 1) (hlen : l.length + 1 ≤ 140737488355328)
    (h : ∀ v' w', OwnB B e v' (l ++ [c]) W0 w' → wpList P ops Q rest (a.put o.dst v') w') : wpList P ops Q (o :: rest) a (w0.alloc (.cells #[.int .u8 z] e)) := by
  subst hzc
  refine wpList_append_byte hgd s x t ho B e i ht hi hz hsize hby v l.length (bcells l) hs W0 w0 c.toNat hb hx hlen ?_
  intro v' w' h'
  refine h v' w' ?_
  unfold OwnB
  rw [bcells_append]
  simpa [bcells] using h'

/-- two bytes more -/
theorem wpList_own_two {ops : Array Oper} {rest : List Oper} {o : Oper} {a : Act} {Q : Exit → Act → World → Prop} (hgd : o.guard = none) (s x : Operand) (t : TypeId)
    (ho : o.op = .call { callee := .builtin .append, args := #[s, x], argTypes := #[t, t] })
    (B : Nat) (e : TypeId) (i : TypeInfo) (ht : P.underlying t = some (.slice e)) (hi : P.info? e = some i) (hz : i.zero = some (.int .u8 0)) (hsize : i.size = 1) (hby : i.bytes = 1)
    (v : Value) (l : List UInt8) (hs : a.eval s = v) (W0 w0 : World) (c d : UInt8) (z y : Int) (hzc : z = c.toNat) (hyd : y = d.toNat) (hb : OwnB B e v l W0 w0)
    (hx : a.eval x = .slice (some ⟨w0.heap.size, 0, none⟩) 2 2) (hlen : l.length + 2 ≤ 140737488355328)
    (h : ∀ v' w', OwnB B e v' (l ++ [c, d]) W0 w' → wpList P ops Q rest (a.put o.dst v') w') : wpList P ops Q (o :: rest) a (w0.alloc (.cells #[.int .u8 z, .int .u8 y] e)) := by
  subst hzc hyd
  have hb' := OwnBuf.alloc hb (.cells #[.int .u8 c.toNat, .int .u8 d.toNat] e)
  refine wpList_append_ownF _ hgd s x t ho B e i (.int .u8 0) 1 1 ht hi hz hsize hby rfl (by decide) v l.length (bcells l) hs hb'.1 ⟨w0.heap.size, 0, none⟩ 2 2 [.int .u8 c.toNat, .int .u8 d.toNat] hx rfl ?_ ?_ (by unfold maxLen; omega) (by omega) hb'.2.2 ?_
  · intro j u hj
    match j, hj with
    | 0, hj => simp at hj; subst hj; simp [Addr.add]
    | 1, hj => simp at hj; subst hj; simp [Addr.add]
    | (j + 2), hj => simp at hj
  · intro u hu; simp at hu; rcases hu with rfl | rfl <;> rfl
  · intro v' w' ho' hg _
    refine h v' w' ?_
    have := OwnBuf.grown hb' ho' hg
    unfold OwnB
    rw [bcells_append]
    simpa [bcells] using this

/-- a string more -/
theorem wpList_own_text {ops : Array Oper} {rest : List Oper} {o : Oper} {a : Act} {Q : Exit → Act → World → Prop} {w : World} (hgd : o.guard = none) (sl x : Operand) (t u : TypeId)
    (ho : o.op = .call { callee := .builtin .append, args := #[sl, x], argTypes := #[t, u] })
    (B : Nat) (e : TypeId) (i : TypeInfo) (ht : P.underlying t = some (.slice e)) (hu : P.underlying u = some .string) (hi : P.info? e = some i) (hz : i.zero = some (.int .u8 0)) (hsize : i.size = 1) (hby : i.bytes = 1)
    (v : Value) (l : List UInt8) (hs : a.eval sl = v) (W0 : World) (hb : OwnB B e v l W0 w) (s : ByteArray) (hx : a.eval x = .string s) (hlen : l.length + s.size ≤ 140737488355328)
    (h : ∀ v' w', OwnB B e v' (l ++ s.data.toList) W0 w' → wpList P ops Q rest (a.put o.dst v') w') : wpList P ops Q (o :: rest) a w := by
  refine wpList_append_text hgd sl x t u ho B e i ht hu hi hz hsize hby v l.length (bcells l) hs W0 hb s hx hlen ?_
  intro v' w' h'
  refine h v' w' ?_
  unfold OwnB
  rw [bcells_append, List.length_append]
  rw [bcells_str] at h'
  have : s.data.toList.length = s.size := Array.length_toList
  rw [this]
  exact h'

/-- 'string(b)' -/
theorem OwnB.text {B : Nat} {e : TypeId} {v : Value} {l : List UInt8} {W0 w : World} (h : OwnB B e v l W0 w) (src dst : TypeId)
    (hs : P.underlying src = some (.slice e)) (he : P.underlying e = some (.int .u8)) (hd : P.underlying dst = some .string) :
    (convert src dst v).run P w = .ok (.string ⟨l.toArray⟩) w := by
  obtain ⟨h1, _, _⟩ := h
  rcases h1.2 with ⟨rfl, hn⟩ | ⟨g, cap, cur, fz, rfl, hB, hg, _, _, _, hcs, htk⟩
  · have : l = [] := List.eq_nil_of_length_eq_zero hn
    subst this
    exact run_convert_nil_bytes w src dst e 0 hs he hd
  · refine run_convert_bytes_back w src dst e ⟨g, 0, none⟩ cap l hs he hd ?_
    refine bytes_of_row hg ?_
    rw [Nat.mul_one] at htk
    exact htk

end
end Go.Proofs.Ythjaanhkmfiajac
