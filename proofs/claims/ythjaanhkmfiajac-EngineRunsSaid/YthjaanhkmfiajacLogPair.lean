/- Package log: appendPair and checksum: what they return. A slice of bytes as Lean data. Conditions: the number is below 65536, the rows have at most a million bytes. -/
import Derived.Test.YthjaanhkmfiajacPressDecode
import Derived.Test.YthjaanhkmfiajacPure
import Derived.IntWalk
import Derived.Lib.Hide
namespace Go.Proofs.Ythjaanhkmfiajac
open Go.RowKit PM

theorem addr_at (g o j : Nat) : (⟨g, o, none⟩ : Addr).add j = ⟨g, o + j, none⟩ := by unfold Addr.add; split <;> simp_all
/-- the slice value v holds the bytes l -/
def BytesAt (w : World) (v : Value) (l : List UInt8) : Prop :=
  ∃ (p : Option Addr) (cap : Nat), v = .slice p l.length cap ∧
    ∀ (i : Nat) (b : UInt8), l[i]? = some b → ∃ g off, p = some ⟨g, off, none⟩ ∧ g < w.heap.size ∧ w.cell? ⟨g, off + i, none⟩ = some (.int .u8 b.toNat)
theorem BytesAt.keep {w w' : World} {v : Value} {l : List UInt8} (h : BytesAt w v l) (hb : Below w.heap.size w w') : BytesAt w' v l := by
  obtain ⟨p, cap, hv, hc⟩ := h
  refine ⟨p, cap, hv, fun i x hx => ?_⟩
  obtain ⟨g, off, hp, hlt, h0⟩ := hc i x hx
  exact ⟨g, off, hp, Nat.lt_of_lt_of_le hlt hb.size, (hb.cell (p := ⟨g, _, none⟩) hlt).trans h0⟩
theorem OwnB.bytes {B : Nat} {e : TypeId} {v : Value} {l : List UInt8} {W0 w : World} (h : OwnB B e v l W0 w) : BytesAt w v l := by
  obtain ⟨h1, _, _⟩ := h
  rcases h1.2 with ⟨rfl, hn⟩ | ⟨g, cap, cur, fz, rfl, hB, hg, rest⟩
  · have : l = [] := List.eq_nil_of_length_eq_zero hn
    subst this
    exact ⟨none, 0, rfl, fun i b hb => by simp at hb⟩
  · refine ⟨some ⟨g, 0, none⟩, cap, rfl, fun i b hb => ⟨g, 0, rfl, (Array.getElem?_eq_some_iff.1 hg).1, ?_⟩⟩
    have := h1.cells (g := g) rfl i (.int .u8 b.toNat) (by unfold bcells; rw [List.getElem?_map, hb]; rfl)
    rw [addr_at] at this
    exact this
theorem OwnB.drewN {B : Nat} {e : TypeId} {v : Value} {l : List UInt8} {W0 w : World} (h : OwnB B e v l W0 w) (n : Nat) : OwnB B e v l W0 (w.drewN n) := Lib.OwnBuf.drewN h n

section
variable {P : Program}
/-- 'append(v, u...)' of a slice of bytes -/
theorem wpList_own_bytes {ops : Array Oper} {rest : List Oper} {o : Oper} {a : Act} {Q : Exit → Act → World → Prop} (hgd : o.guard = none) (s x : Operand) (t : TypeId)
    (ho : o.op = .call { callee := .builtin .append, args := #[s, x], argTypes := #[t, t] })
    (B : Nat) (e : TypeId) (i : TypeInfo) (ht : P.underlying t = some (.slice e)) (hi : P.info? e = some i) (hz : i.zero = some (.int .u8 0)) (hsize : i.size = 1) (hby : i.bytes = 1)
    (v : Value) (l : List UInt8) (hs : a.eval s = v) (W0 w : World) (hb : OwnB B e v l W0 w) (u : Value) (m : List UInt8) (hm : 0 < m.length) (hu : BytesAt w u m) (hx : a.eval x = u) (hlen : l.length + m.length ≤ 1000000)
    (h : ∀ v' w', OwnB B e v' (l ++ m) W0 w' → wpList P ops Q rest (a.put o.dst v') w') : wpList P ops Q (o :: rest) a w := by
  obtain ⟨p, cap, rfl, hc⟩ := hu
  obtain ⟨g, off, rfl, _, _⟩ := hc 0 m[0] (List.getElem?_eq_getElem hm)
  refine wpList_append_ownF _ hgd s x t ho B e i (.int .u8 0) 1 1 ht hi hz hsize hby rfl (by decide) v l.length (bcells l) hs hb.1 ⟨g, off, none⟩ m.length cap (bcells m) hx (by rw [bcells_length, Nat.mul_one]) ?_ ?_ (by unfold maxLen; omega) (by omega) hb.2.2 ?_
  · intro j y hj
    unfold bcells at hj
    rw [List.getElem?_map] at hj
    cases hmj : m[j]? with
    | none => rw [hmj] at hj; cases hj
    | some b =>
      rw [hmj] at hj
      simp only [Option.map_some, Option.some.injEq] at hj
      subst hj
      obtain ⟨g', off', he, _, h0⟩ := hc j b hmj
      cases he
      rw [addr_at]
      exact h0
  · intro y hy
    unfold bcells at hy
    obtain ⟨b, _, rfl⟩ := List.mem_map.1 hy
    rfl
  · intro v' w' ho' hg _
    refine h v' w' ?_
    have := Lib.OwnBuf.grown hb ho' hg
    unfold OwnB
    rw [bcells_append, List.length_append]
    exact this
end

set_option maxRecDepth 100000 in
set_option maxHeartbeats 1000000 in
theorem appendPair_any (B : Nat) (v : Value) (l : List UInt8) (n : Nat) (hn : n < 65536) (hl : l.length ≤ 1000000) (W0 w : World) (h : OwnB B 5 v l W0 w) :
    Calls Try.prog 62 #[v, .int .i64 (n : Int)] w fun e w' => ∃ v', e = .returned v' ∧ OwnB B 5 v' (l ++ [UInt8.ofNat (n / 256), UInt8.ofNat (n % 256)]) W0 w' := by
  obtain ⟨i0, hi, hz0, hz1, hz2⟩ := info_parts Try.infoByte
  obtain ⟨p, c, rfl⟩ := own_len h
  go_enter Try.func62, Try.ntmps62
  go_wp2_with (at_builtin; refine wpList_own_two rfl (.tmp 5) (.tmp 11) 91 rfl B 5 i0 Try.underlying91 hi hz0 hz1 hz2 _ _ rfl W0 w (UInt8.ofNat (n / 256)) (UInt8.ofNat (n % 256)) _ _ (by rw [u8_of _ (by omega)]; omega) (by rw [u8_of _ (by omega)]; omega) h rfl (by omega) ?_; intro v2 w2 hown2)
  go_ret
  exact ⟨v2, rfl, hown2⟩

theorem sums_append : ∀ (A C : List UInt8) (p : Nat × Nat), LM.sums p (A ++ C) = LM.sums (LM.sums p A) C
  | [], C, p => rfl
  | b :: A, C, p => by
    rw [List.cons_append, LM.sums, LM.sums]
    exact sums_append A C _
theorem sums_step {l : List UInt8} {k : Nat} {b : UInt8} (h : l[k]? = some b) (p : Nat × Nat) :
    LM.sums p (l.take (k + 1)) = (((LM.sums p (l.take k)).1 + b.toNat) % 65521, (((LM.sums p (l.take k)).1 + b.toNat) % 65521 + (LM.sums p (l.take k)).2) % 65521) := by
  rw [List.take_add_one, h, sums_append]
  rfl

set_option maxRecDepth 100000 in
set_option maxHeartbeats 1000000 in
theorem checksum_any (v : Value) (l : List UInt8) (hl : l.length ≤ 1000000) (w : World) (h : BytesAt w v l) :
    Calls Try.prog 63 #[v] w fun e w' => e = .returned (.tuple #[.int .i64 ((LM.sums (1, 0) l).1 : Int), .int .i64 ((LM.sums (1, 0) l).2 : Int)]) ∧ w' = w := by
  obtain ⟨p, cap, rfl, hc⟩ := h
  have HC := Lib.hid hc
  clear hc
  go_enter Try.func63, Try.ntmps63
  go_wp2
  go_loopw [2, 3, 8] (fun a b i wr => ∃ (k x y : Nat), k ≤ l.length ∧ i = .int .i64 k ∧ a = .int .i64 x ∧ b = .int .i64 y ∧ Hid (LM.sums (1, 0) (l.take k) = (x, y)) ∧ x < 65521 ∧ y < 65521 ∧ wr = w) (fun _ _ i _ => l.length - (intOf i).toNat)
  case atStart => exact ⟨0, 1, 0, Nat.zero_le _, rfl, rfl, rfl, Lib.hid rfl, by omega, by omega, rfl⟩
  case round =>
    obtain ⟨k, x, y, hk, rfl, rfl, rfl, HS, hx, hy, rfl⟩ := hrel
    by_cases hlt : k < l.length
    · obtain ⟨b, hb⟩ : ∃ b, l[k]? = some b := ⟨l[k], List.getElem?_eq_getElem hlt⟩
      obtain ⟨g, off, rfl, hgl, c0⟩ := HC.out k b hb
      have hb8 := b.toNat_lt
      have hst := sums_step hb (1, 0)
      rw [HS.out] at hst
      have HST := Lib.hid hst
      clear hb hst
      go_wp2
      go_roundw
      case rel => exact ⟨k + 1, (x + b.toNat) % 65521, ((x + b.toNat) % 65521 + y) % 65521, by omega, by go_num, by congr 1, by congr 1; omega, HST, Nat.mod_lt _ (by omega), Nat.mod_lt _ (by omega), trivial⟩
      case measure => simp [intOf]; omega
    · have hke : k = l.length := by omega
      subst hke
      have hS := HS.out
      rw [List.take_length] at hS
      go_wp2
      go_ret2
      rw [hS]
      exact ⟨rfl, rfl⟩
end Go.Proofs.Ythjaanhkmfiajac
