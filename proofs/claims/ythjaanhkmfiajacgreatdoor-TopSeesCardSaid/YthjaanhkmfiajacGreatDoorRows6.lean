/- Rows of structs told by a list, more of them: the row of an owned slice, its head, a row of zero values, an array of slices. No condition but those in the statements. -/
import Derived.Test.YthjaanhkmfiajacGreatDoorPure
import Derived.Laws.MakeOwn
namespace Go.Proofs.YthjaanhkmfiajacGreatDoor
open Go.RowKit

section
variable {α : Type} {enc : α → List Value} {k : Nat}
theorem OwnR.row {B g cap n : Nat} {e : TypeId} {L : List α} {W0 w : World} (h : OwnR enc k B e (.slice (some ⟨g, 0, none⟩) n cap) L W0 w) :
    ∃ cur, RowAt w g e cur ∧ n = L.length ∧ B ≤ g ∧ L.length ≤ cap ∧ cap ≤ maxLen ∧ cur.size = cap * k ∧ cur.toList.take (L.length * k) = rcells enc L := by
  rcases h.1.2 with ⟨h', _⟩ | ⟨g', cap', cur, h', hB, hg, hcap, hmx, hsz, htk⟩
  · cases h'
  · cases h'
    exact ⟨cur, hg, rfl, hB, hcap, hmx, hsz, htk⟩
theorem OwnR.ofRow (he : Enc enc k) {B g cap : Nat} {e : TypeId} {L : List α} {W0 w : World} {cur : Array Value} (hr : RowAt w g e cur) (hB : B ≤ g) (hcap : L.length ≤ cap) (hmx : cap ≤ maxLen) (hsz : cur.size = cap * k)
    (htk : cur.toList.take (L.length * k) = rcells enc L) (hb : Below B W0 w) : OwnR enc k B e (.slice (some ⟨g, 0, none⟩) L.length cap) L W0 w :=
  ⟨⟨rcells_length he L, .inr ⟨g, cap, cur, rfl, hB, hr, hcap, hmx, hsz, htk⟩⟩, hb, Nat.le_trans hB (Nat.le_of_lt hr.lt)⟩
theorem OwnR.shape {B : Nat} {e : TypeId} {v : Value} {L : List α} {W0 w : World} (h : OwnR enc k B e v L W0 w) (hl : 1 ≤ L.length) : ∃ g cap, v = .slice (some ⟨g, 0, none⟩) L.length cap ∧ B ≤ g ∧ g < w.heap.size ∧ L.length ≤ cap ∧ cap ≤ maxLen := by
  rcases h.1.2 with ⟨_, hn⟩ | ⟨g, cap, cur, rfl, hB, hg, hcap, hmx, _⟩
  · omega
  · exact ⟨g, cap, rfl, hB, (Array.getElem?_eq_some_iff.1 hg).1, hcap, hmx⟩
theorem rcells_take (he : Enc enc k) (L : List α) (i : Nat) (hi : i ≤ L.length) : (rcells enc L).take (i * k) = rcells enc (L.take i) := by
  have e : rcells enc L = rcells enc (L.take i) ++ rcells enc (L.drop i) := by rw [← rcells_append, List.take_append_drop]
  have el : (rcells enc (L.take i)).length = i * k := by rw [rcells_length he, List.length_take, Nat.min_eq_left hi]
  rw [e, ← el, List.take_left]
/-- the head of an owned slice -/
theorem OwnR.head (he : Enc enc k) {B g cap n : Nat} {e : TypeId} {L : List α} {W0 w : World} (h : OwnR enc k B e (.slice (some ⟨g, 0, none⟩) n cap) L W0 w) {i : Nat} (hi : i ≤ L.length) : OwnR enc k B e (.slice (some ⟨g, 0, none⟩) i cap) (L.take i) W0 w := by
  obtain ⟨cur, hr, hn, hB, hcap, hmx, hsz, htk⟩ := h.row
  have hl : (L.take i).length = i := by rw [List.length_take, Nat.min_eq_left hi]
  have := OwnR.ofRow he (L := L.take i) (W0 := W0) hr hB (by rw [hl]; omega) hmx hsz (by
    rw [hl, ← rcells_take he L i hi, ← htk, List.take_take, Nat.min_eq_left (Nat.mul_le_mul_right k hi)]) h.2.1
  rw [hl] at this
  exact this
theorem made_rows (he : Enc enc k) (x : α) (n : Nat) (z : Array Value) (hz : z = (enc x).toArray) : madeCells z (n * k) = (rcells enc (List.replicate n x)).toArray := by
  subst hz
  apply Array.ext
  · rw [size_madeCells]
    simp [rcells_length he]
  · intro i h1 h2
    rw [size_madeCells] at h1
    have hk := he.pos
    have hq : i / k < n := Nat.div_lt_of_lt_mul (by rw [Nat.mul_comm]; exact h1)
    have hi : i / k * k + i % k = i := by
      have := Nat.div_add_mod i k
      rw [Nat.mul_comm] at this
      exact this
    have hm : i % k < k := Nat.mod_lt _ hk
    have h3 := rcells_at he (List.replicate n x) (i / k) x (i % k) (by rw [List.getElem?_replicate, if_pos hq]) hm
    rw [hi] at h3
    have h4 : (enc x)[i % k]? = some ((enc x)[i % k]'(by rw [he.len]; exact hm)) := List.getElem?_eq_getElem _
    rw [h4] at h3
    have h5 : (rcells enc (List.replicate n x)).toArray[i]'h2 = (enc x)[i % k]'(by rw [he.len]; exact hm) := by
      have := (List.getElem?_eq_some_iff.1 h3).2
      simpa using this
    rw [h5]
    simp only [madeCells, Array.getElem_map, Array.getElem_range]
    have hs : (enc x).toArray.size = k := by simp [he.len]
    rw [hs, getElem!_pos (enc x).toArray (i % k) (by rw [hs]; exact hm)]
    simp
end
section
variable {P : Program}
/-- clear of a row's tail -/
theorem run_clear_tail (w : World) (t e ty : TypeId) (ht : P.underlying t = some (.slice e)) (z : Value) (hv : ∀ w, (zeroValue e).run P w = .ok z w) (m : Nat) (hm : m ≠ 0) (zs : List Value) (hz : (Builtin.zeroCells z.cells m).toList = zs) (h1 : ∀ u ∈ zs, u.oneCell' = true)
    (g o c : Nat) (cur : Array Value) (hr : RowAt w g e cur) (hfit : o + zs.length ≤ cur.size) :
    (Builtin.clear_ #[t] ty #[.slice (some ⟨g, o, none⟩) m c]).run P w = .ok (.tuple #[]) (w.setRow g (over cur o zs)) := by
  obtain ⟨q, rfl⟩ : ∃ q, m = q + 1 := ⟨m - 1, by omega⟩
  have hst := run_storeCells_at P g o e zs 0 cur w hr (by simpa using hfit) h1
  simp only [Nat.add_zero] at hst
  simp [Builtin.clear_, run_underlying ht, hv, hz, hst, over]
end
/-- a slice as data -/
structure Sl where
  p : Option Addr
  len : Nat
  cap : Nat
abbrev Sl.v (s : Sl) : Value := .slice s.p s.len s.cap
def slC (s : Sl) : List Value := [s.v]
theorem slE : Enc slC 1 := ⟨fun _ => rfl, fun x u hu => by simp [slC] at hu; subst hu; rfl, by decide⟩
end Go.Proofs.YthjaanhkmfiajacGreatDoor
