/- The plain mathematics of items, volumes, writes, logs and engines, and rows that a call owns: texts merged into one. No condition but those in the statements. -/
import Derived.Test.YthjaanhkmfiajacGreatDoorPure
import Derived.Laws.MakeOwn
import Derived.Test.YthjaanhkmfiajacGreatDoorKeepActs
import Derived.Test.YthjaanhkmfiajacGreatDoorTopBase
import Derived.Laws.OwnMore
/- Rows of structs told by a list, more of them: the row of an owned slice, its head, a row of zero values, an array of slices. No condition but those in the statements. -/
namespace Go.Proofs.YthjaanhkmfiajacGreatDoor
open Go.RowKit

section
variable {α : Type} {enc : α → List Value} {k : Nat}
theorem OwnR.row {B g cap n : Nat} {e : TypeId} {L : List α} {W0 w : World} (h : OwnR enc k B e (.slice (some ⟨g, 0, none⟩) n cap) L W0 w) :
    ∃ cur, RowAt w g e cur ∧ n = L.length ∧ B ≤ g ∧ L.length ≤ cap ∧ cap ≤ maxLen ∧ cur.size = cap * k ∧ cur.toList.take (L.length * k) = rcells enc L := by
  rcases h.1.2 with ⟨h', _⟩ | ⟨g', cap', cur, h', hB, hg, hcap, hmx, hsz, htk⟩
  · cases h'
  · cases h'
    exact ⟨cur, hg, rfl, hB, hcap, hmx, hsz, htk⟩
theorem OwnR.ofRow (he : Enc enc k) {B g cap : Nat} {e : TypeId} {L : List α} {W0 w : World} {cur : Array Value} (hr : RowAt w g e cur) (hB : B ≤ g) (hcap : L.length ≤ cap) (hmx : cap ≤ maxLen) (hsz : cur.size = cap * k)
    (htk : cur.toList.take (L.length * k) = rcells enc L) (hb : Below B W0 w) : OwnR enc k B e (.slice (some ⟨g, 0, none⟩) L.length cap) L W0 w :=
  ⟨⟨rcells_length he L, .inr ⟨g, cap, cur, rfl, hB, hr, hcap, hmx, hsz, htk⟩⟩, hb, Nat.le_trans hB (Nat.le_of_lt hr.lt)⟩
theorem OwnR.shape {B : Nat} {e : TypeId} {v : Value} {L : List α} {W0 w : World} (h : OwnR enc k B e v L W0 w) (hl : 1 ≤ L.length) : ∃ g cap, v = .slice (some ⟨g, 0, none⟩) L.length cap ∧ B ≤ g ∧ g < w.heap.size ∧ L.length ≤ cap ∧ cap ≤ maxLen := by
  rcases h.1.2 with ⟨_, hn⟩ | ⟨g, cap, cur, rfl, hB, hg, hcap, hmx, _⟩
  · omega
  · exact ⟨g, cap, rfl, hB, (Array.getElem?_eq_some_iff.1 hg).1, hcap, hmx⟩
theorem rcells_take (he : Enc enc k) (L : List α) (i : Nat) (hi : i ≤ L.length) : (rcells enc L).take (i * k) = rcells enc (L.take i) := by
  have e : rcells enc L = rcells enc (L.take i) ++ rcells enc (L.drop i) := by rw [← rcells_append, List.take_append_drop]
  have el : (rcells enc (L.take i)).length = i * k := by rw [rcells_length he, List.length_take, Nat.min_eq_left hi]
  rw [e, ← el, List.take_left]
/-- the head of an owned slice -/
theorem OwnR.head (he : Enc enc k) {B g cap n : Nat} {e : TypeId} {L : List α} {W0 w : World} (h : OwnR enc k B e (.slice (some ⟨g, 0, none⟩) n cap) L W0 w) {i : Nat} (hi : i ≤ L.length) : OwnR enc k B e (.slice (some ⟨g, 0, none⟩) i cap) (L.take i) W0 w := by
  obtain ⟨cur, hr, hn, hB, hcap, hmx, hsz, htk⟩ := h.row
  have hl : (L.take i).length = i := by rw [List.length_take, Nat.min_eq_left hi]
  have := OwnR.ofRow he (L := L.take i) (W0 := W0) hr hB (by rw [hl]; omega) hmx hsz (by
    rw [hl, ← rcells_take he L i hi, ← htk, List.take_take, Nat.min_eq_left (Nat.mul_le_mul_right k hi)]) h.2.1
  rw [hl] at this
  exact this
theorem made_rows (he : Enc enc k) (x : α) (n : Nat) (z : Array Value) (hz : z = (enc x).toArray) : madeCells z (n * k) = (rcells enc (List.replicate n x)).toArray := by
  subst hz
  apply Array.ext
  · rw [size_madeCells]
    simp [rcells_length he]
  · intro i h1 h2
    rw [size_madeCells] at h1
    have hk := he.pos
    have hq : i / k < n := Nat.div_lt_of_lt_mul (by rw [Nat.mul_comm]; exact h1)
    have hi : i / k * k + i % k = i := by
      have := Nat.div_add_mod i k
      rw [Nat.mul_comm] at this
      exact this
    have hm : i % k < k := Nat.mod_lt _ hk
    have h3 := rcells_at he (List.replicate n x) (i / k) x (i % k) (by rw [List.getElem?_replicate, if_pos hq]) hm
    rw [hi] at h3
    have h4 : (enc x)[i % k]? = some ((enc x)[i % k]'(by rw [he.len]; exact hm)) := List.getElem?_eq_getElem _
    rw [h4] at h3
    have h5 : (rcells enc (List.replicate n x)).toArray[i]'h2 = (enc x)[i % k]'(by rw [he.len]; exact hm) := by
      have := (List.getElem?_eq_some_iff.1 h3).2
      simpa using this
    rw [h5]
    simp only [madeCells, Array.getElem_map, Array.getElem_range]
    have hs : (enc x).toArray.size = k := by simp [he.len]
    rw [hs, getElem!_pos (enc x).toArray (i % k) (by rw [hs]; exact hm)]
    simp
end
section
variable {P : Program}
/-- clear of a row's tail -/
theorem run_clear_tail (w : World) (t e ty : TypeId) (ht : P.underlying t = some (.slice e)) (z : Value) (hv : ∀ w, (zeroValue e).run P w = .ok z w) (m : Nat) (hm : m ≠ 0) (zs : List Value) (hz : (Builtin.zeroCells z.cells m).toList = zs) (h1 : ∀ u ∈ zs, u.oneCell' = true)
    (g o c : Nat) (cur : Array Value) (hr : RowAt w g e cur) (hfit : o + zs.length ≤ cur.size) :
    (Builtin.clear_ #[t] ty #[.slice (some ⟨g, o, none⟩) m c]).run P w = .ok (.tuple #[]) (w.setRow g (over cur o zs)) := by
  obtain ⟨q, rfl⟩ : ∃ q, m = q + 1 := ⟨m - 1, by omega⟩
  have hst := run_storeCells_at P g o e zs 0 cur w hr (by simpa using hfit) h1
  simp only [Nat.add_zero] at hst
  simp [Builtin.clear_, run_underlying ht, hv, hz, hst, over]
end
/-- a slice as data -/
structure Sl where
  p : Option Addr
  len : Nat
  cap : Nat
abbrev Sl.v (s : Sl) : Value := .slice s.p s.len s.cap
def slC (s : Sl) : List Value := [s.v]
theorem slE : Enc slC 1 := ⟨fun _ => rfl, fun x u hu => by simp [slC] at hu; subst hu; rfl, by decide⟩
end Go.Proofs.YthjaanhkmfiajacGreatDoor

/- A row of slices of strings that a call owns, told by a list of lists of strings: append of one. No condition but those in the statements. -/
namespace Go.Proofs.YthjaanhkmfiajacGreatDoor
open Go.RowKit

/-- the slice value u holds the strings W, in a block of strings -/
def InnerS (w : World) (u : Value) (W : List ByteArray) : Prop :=
  StrsAt w u W ∧ ∀ p n c, u = .slice (some p) n c → ∃ cur fr, w.heap[p.block]? = some (.cells cur 9 fr)
theorem InnerS.keep {w w' : World} {u : Value} {W : List ByteArray} (h : InnerS w u W) (hb : Below w.heap.size w w') : InnerS w' u W := by
  refine ⟨h.1.keep hb, fun p n c hu => ?_⟩
  obtain ⟨cur, fr, hk⟩ := h.2 p n c hu
  exact ⟨cur, fr, (hb.block _ (Array.getElem?_eq_some_iff.1 hk).1).trans hk⟩
theorem InnerS.grown {e : TypeId} (hne : e ≠ 9) {B : Nat} {size : Nat} {v : Value} {n : Nat} {xs : List Value} {w w' : World} {u : Value} {W : List ByteArray} (h : InnerS w u W) (hrow : w.ownsRow B e size v n xs) (hg : w.grownBy w' v.ownBlock) : InnerS w' u W := by
  obtain ⟨⟨p, cap, hv, hl, hn, hc⟩, ht⟩ := h
  refine ⟨⟨p, cap, hv, hl, hn, fun i x hx => ?_⟩, fun p' n' c' hu => ?_⟩
  · obtain ⟨b, off, hp, hlt, h0⟩ := hc i x hx
    obtain ⟨cur, fr, hk⟩ := ht ⟨b, off, none⟩ _ _ (by rw [hv, hp])
    have hap := type_apart hne hrow hk
    exact ⟨b, off, hp, Nat.lt_of_lt_of_le hlt hg.size, hg.cell h0 hap⟩
  · obtain ⟨cur, fr, hk⟩ := ht p' n' c' hu
    exact ⟨cur, fr, (hg.block _ (Array.getElem?_eq_some_iff.1 hk).1 (type_apart hne hrow hk)).trans hk⟩
theorem OwnS.inner {B : Nat} {v : Value} {L : List ByteArray} {W0 w : World} (h : OwnS B 9 v L W0 w) (hl : L.length ≤ 140737488355328) : InnerS w v L := by
  refine ⟨h.ints hl, fun p n c hv => ?_⟩
  subst hv
  obtain ⟨cur, hc⟩ := row_type h.1 p.block rfl
  exact ⟨cur, _, hc⟩

/-- the slice value v holds the lists of strings D -/
def StrssAt (w : World) (v : Value) (D : List (List ByteArray)) : Prop :=
  ∃ (p : Option Addr) (cap : Nat), v = .slice p D.length cap ∧ D.length ≤ 140737488355328 ∧ D.length ≤ cap ∧
    ∀ (i : Nat) (W : List ByteArray), D[i]? = some W → ∃ g off u, p = some ⟨g, off, none⟩ ∧ g < w.heap.size ∧ w.cell? ⟨g, off + i, none⟩ = some u ∧ StrsAt w u W
theorem StrssAt.keep {w w' : World} {v : Value} {D : List (List ByteArray)} (h : StrssAt w v D) (hb : Below w.heap.size w w') : StrssAt w' v D := by
  obtain ⟨p, cap, hv, hl, hcp, hc⟩ := h
  refine ⟨p, cap, hv, hl, hcp, fun i x hx => ?_⟩
  obtain ⟨g, off, u, hp, hlt, h0, h1⟩ := hc i x hx
  exact ⟨g, off, u, hp, Nat.lt_of_lt_of_le hlt hb.size, (hb.cell (p := ⟨g, _, none⟩) hlt).trans h0, h1.keep hb⟩
/-- v is the call's own row of the lists of strings D -/
def OwnSS (B : Nat) (e : TypeId) (v : Value) (D : List (List ByteArray)) (W0 w : World) : Prop :=
  ∃ vs : List Value, vs.length = D.length ∧ w.ownsRow B e 1 v D.length vs ∧ Below B W0 w ∧ B ≤ w.heap.size ∧ (∀ u ∈ vs, u.oneCell' = true) ∧ ∀ (i : Nat) u W, vs[i]? = some u → D[i]? = some W → InnerS w u W
theorem OwnSS.nil {B : Nat} {e : TypeId} {W0 w : World} (hb : Below B W0 w) (h : B ≤ w.heap.size) : OwnSS B e (.slice none 0 0) [] W0 w := ⟨[], rfl, World.ownsRow_nil _ _ _ _, hb, h, by simp, by simp⟩
theorem OwnSS.below {B : Nat} {e : TypeId} {v : Value} {D : List (List ByteArray)} {W0 w : World} (h : OwnSS B e v D W0 w) : Below B W0 w := by
  obtain ⟨_, _, _, hb, _⟩ := h
  exact hb
theorem OwnSS.size {B : Nat} {e : TypeId} {v : Value} {D : List (List ByteArray)} {W0 w : World} (h : OwnSS B e v D W0 w) : B ≤ w.heap.size := by
  obtain ⟨_, _, _, _, hb, _⟩ := h
  exact hb
theorem OwnSS.cast {B : Nat} {e : TypeId} {v : Value} {D D' : List (List ByteArray)} {W0 w : World} (h : OwnSS B e v D W0 w) (hl : D = D') : OwnSS B e v D' W0 w := hl ▸ h
theorem OwnSS.past {B : Nat} {e : TypeId} {v : Value} {D : List (List ByteArray)} {W0 w w' : World} (h : OwnSS B e v D W0 w) (hb : Below w.heap.size w w') : OwnSS B e v D W0 w' := by
  obtain ⟨vs, hl, h1, h2, h3, h4, h5⟩ := h
  refine ⟨vs, hl, ⟨h1.1, ?_⟩, h2.trans (hb.mono h3), Nat.le_trans h3 hb.size, h4, fun i u W hu hW => (h5 i u W hu hW).keep hb⟩
  rcases h1.2 with hn | ⟨g, cap, cur, hv, hB, hg, rest⟩
  · exact .inl hn
  · exact .inr ⟨g, cap, cur, hv, hB, by rw [hb.block g (Array.getElem?_eq_some_iff.1 hg).1]; exact hg, rest⟩
theorem OwnSS.alloc {B : Nat} {e : TypeId} {v : Value} {D : List (List ByteArray)} {W0 w : World} (h : OwnSS B e v D W0 w) (o : Obj) : OwnSS B e v D W0 (w.alloc o) := h.past ((Below.refl _ _).alloc (Nat.le_refl _) o)
theorem OwnSS.lower {B B' : Nat} {e : TypeId} {v : Value} {D : List (List ByteArray)} {W0 W1 w : World} (h : OwnSS B' e v D W1 w) (hB : B ≤ B') (hb : Below B W0 W1) : OwnSS B e v D W0 w := by
  obtain ⟨vs, hl, h1, h2, h3, h4, h5⟩ := h
  refine ⟨vs, hl, ⟨h1.1, ?_⟩, hb.trans (h2.mono hB), Nat.le_trans hB h3, h4, h5⟩
  rcases h1.2 with hn | ⟨g, cap, cur, hv, hg, rest⟩
  · exact .inl hn
  · exact .inr ⟨g, cap, cur, hv, Nat.le_trans hB hg, rest⟩
theorem OwnSS.isSlice {B : Nat} {e : TypeId} {v : Value} {D : List (List ByteArray)} {W0 w : World} (h : OwnSS B e v D W0 w) : ∃ p c, v = .slice p D.length c := by
  obtain ⟨vs, hl, h1, _⟩ := h
  rcases h1.2 with ⟨rfl, hn⟩ | ⟨_, cap, _, rfl, _⟩
  · exact ⟨none, 0, by rw [hn]⟩
  · exact ⟨_, cap, rfl⟩
theorem OwnSS.strss {B : Nat} {e : TypeId} {v : Value} {D : List (List ByteArray)} {W0 w : World} (h : OwnSS B e v D W0 w) (hl : D.length ≤ 140737488355328) : StrssAt w v D := by
  obtain ⟨vs, hlv, h1, _, _, _, h5⟩ := h
  rcases h1.2 with ⟨rfl, hn⟩ | ⟨g, cap, cur, rfl, hB, hg, hcap, _, _, htk⟩
  · have : D = [] := List.eq_nil_of_length_eq_zero hn
    subst this
    exact ⟨none, 0, rfl, hl, Nat.le_refl _, fun i x hx => by simp at hx⟩
  · refine ⟨some ⟨g, 0, none⟩, cap, rfl, hl, hcap, fun i W hW => ?_⟩
    have hi : i < vs.length := by rw [hlv]; exact (List.getElem?_eq_some_iff.1 hW).1
    refine ⟨g, 0, vs[i], rfl, (Array.getElem?_eq_some_iff.1 hg).1, ?_, (h5 i _ W (List.getElem?_eq_getElem hi) hW).1⟩
    rw [Nat.zero_add]
    exact (h1.cellAt i (by omega)).trans (List.getElem?_eq_getElem hi)
/-- a slice's head holds the head -/
theorem StrssAt.take {w : World} {p : Option Addr} {n cap : Nat} {D : List (List ByteArray)} (h : StrssAt w (.slice p n cap) D) {k : Nat} (hk : k ≤ D.length) : StrssAt w (.slice p k cap) (D.take k) := by
  obtain ⟨p', cap', hv, hl, hcp, hc⟩ := h
  cases hv
  refine ⟨p, cap, by rw [List.length_take, Nat.min_eq_left hk], by rw [List.length_take]; omega, by rw [List.length_take]; omega, fun i W hW => ?_⟩
  rw [List.getElem?_take] at hW
  split at hW
  · exact hc i W hW
  · cases hW

section
variable {P : Program}
theorem wpList_own_strs {ops : Array Oper} {rest : List Oper} {o : Oper} {a : Act} {Q : Exit → Act → World → Prop} (hgd : o.guard = none) (s x : Operand) (t : TypeId)
    (ho : o.op = .call { callee := .builtin .append, args := #[s, x], argTypes := #[t, t] })
    (B : Nat) (e : TypeId) (hne : e ≠ 9) (i : TypeInfo) (z : Value) (ht : P.underlying t = some (.slice e)) (hi : P.info? e = some i) (hz : i.zero = some z) (hzs : z.cells.size = 1) (hsize : i.size = 1) (hby : i.bytes = 24)
    (v : Value) (D : List (List ByteArray)) (hs : a.eval s = v) (W0 w0 : World) (u : Value) (Y : List ByteArray) (hu1 : u.oneCell' = true) (hu : InnerS w0 u Y) (hb : OwnSS B e v D W0 w0)
    (g : Nat) (hx : a.eval x = .slice (some ⟨g, 0, none⟩) 1 1) (hgw : g = w0.heap.size) (hlen : (D.length + 1) * 24 ≤ 140737488355328)
    (h : ∀ v' w', OwnSS B e v' (D ++ [Y]) W0 w' → w0.grownBy w' v.ownBlock → wpList P ops Q rest (a.put o.dst v') w') : wpList P ops Q (o :: rest) a (w0.alloc (.cells #[u] e)) := by
  subst hgw
  have hu' := hu.keep ((Below.refl _ _).alloc (Nat.le_refl _) (.cells #[u] e))
  have hb' := hb.alloc (.cells #[u] e)
  obtain ⟨vs, hlv, h1, h2, h3, h4, h5⟩ := hb'
  refine wpList_append_own _ hgd s x t ho B e i z 1 24 ht hi hz hsize hby hzs (by decide) v D.length vs hs h1 ⟨w0.heap.size, 0, none⟩ 1 1 [u] hx rfl ?_ (by simpa using hu1) (by unfold maxLen; omega) hlen h3 ?_
  · intro j y hj
    match j, hj with
    | 0, hj => simp at hj; subst hj; simp [Addr.add]
    | j + 1, hj => simp at hj
  · intro v' w' ho' hg _
    refine h v' w' ⟨vs ++ [u], by simp [hlv], by rw [List.length_append]; exact ho', h2.grown hg h3 (fun k hk => (h1.lt k hk).1), Nat.le_trans h3 hg.size, ?_, ?_⟩ (grown_twice (World.grownBy_alloc w0 _ _) hg)
    · intro y hy
      rcases List.mem_append.1 hy with hy | hy
      · exact h4 y hy
      · simp at hy; subst hy; exact hu1
    · intro i y W hy hW
      by_cases hi : i < vs.length
      · rw [List.getElem?_append_left hi] at hy
        rw [List.getElem?_append_left (by omega)] at hW
        exact (h5 i y W hy hW).grown hne h1 hg
      · rw [List.getElem?_append_right (by omega)] at hy
        rw [List.getElem?_append_right (by omega)] at hW
        have hi0 : i - vs.length = 0 := by
          have := (List.getElem?_eq_some_iff.1 hy).1
          simp at this
          omega
        rw [hi0] at hy
        rw [← hlv, hi0] at hW
        simp at hy hW
        subst hy hW
        exact hu'.grown hne h1 hg
end
end Go.Proofs.YthjaanhkmfiajacGreatDoor

/- The statements' own quiet: slices.IndexFunc and slices.DeleteFunc at actions with its closure. Conditions: the numbers are ints; at most three hundred actions are asked for. -/
namespace Go.Proofs.YthjaanhkmfiajacGreatDoor
open Go.RowKit

/-- an action that quiet takes away -/
def loud (a : EM.Act) : Bool := a.kind == 7 || a.kind == 8
theorem acells_set : ∀ (L : List EM.Act) (i : Nat) (x : EM.Act), i < L.length → ((((rcells actC L).set (i * 4) (.int .i64 x.kind)).set (i * 4 + 1) (.int .i64 x.block)).set (i * 4 + 2) (.string x.data)).set (i * 4 + 3) (.int .i64 x.keep) = rcells actC (L.set i x)
  | [], i, x, h => by simp at h
  | y :: L, 0, x, h => rfl
  | y :: L, i + 1, x, h => by
    have := acells_set L i x (by simpa using h)
    rw [show (i + 1) * 4 = i * 4 + 4 by omega, show i * 4 + 4 + 1 = (i * 4 + 1) + 4 by omega, show i * 4 + 4 + 2 = (i * 4 + 2) + 4 by omega, show i * 4 + 4 + 3 = (i * 4 + 3) + 4 by omega]
    show ((((actC y ++ rcells actC L).set (i * 4 + 4) _).set (i * 4 + 1 + 4) _).set (i * 4 + 2 + 4) _).set (i * 4 + 3 + 4) _ = actC y ++ rcells actC (L.set i x)
    rw [← this]
    rfl
theorem own_set4 {B g cap n : Nat} {L : List EM.Act} {W0 w : World} (h : OwnActs B (.slice (some ⟨g, 0, none⟩) n cap) L W0 w) {i : Nat} (hi : i < L.length) (x : EM.Act) :
    OwnActs B (.slice (some ⟨g, 0, none⟩) n cap) (L.set i x) W0 ((((w.setCell ⟨g, i * 4, none⟩ (.int .i64 x.kind)).setCell ⟨g, i * 4 + 1, none⟩ (.int .i64 x.block)).setCell ⟨g, i * 4 + 2, none⟩ (.string x.data)).setCell ⟨g, i * 4 + 3, none⟩ (.int .i64 x.keep)) := by
  obtain ⟨cur, _, rfl, hB, _⟩ := h.row
  obtain ⟨h1, g1⟩ := h.1.stored (i * 4) (.int .i64 x.kind)
  obtain ⟨h2, g2⟩ := h1.stored (i * 4 + 1) (.int .i64 x.block)
  obtain ⟨h3, g3⟩ := h2.stored (i * 4 + 2) (.string x.data)
  obtain ⟨h4, g4⟩ := h3.stored (i * 4 + 3) (.int .i64 x.keep)
  rw [acells_set L i x hi] at h4
  refine ⟨by rw [List.length_set]; exact h4, (((h.2.1.setCell (p := ⟨g, _, none⟩) hB _).setCell (p := ⟨g, _, none⟩) hB _).setCell (p := ⟨g, _, none⟩) hB _).setCell (p := ⟨g, _, none⟩) hB _, Nat.le_trans h.2.2 (Nat.le_trans g1.size (Nat.le_trans g2.size (Nat.le_trans g3.size g4.size)))⟩

set_option maxRecDepth 100000 in
theorem loud_any (x : EM.Act) (w : World) :
    Calls Tryz.prog 36 #[.agg #[.int .i64 x.kind, .int .i64 x.block, .string x.data, .int .i64 x.keep]] w fun e w' => e = .returned (.bool (loud x)) ∧ Below w.heap.size w w' := by
  have hc : x.kind = 7 ∨ x.kind = 8 ∨ (¬ x.kind = 7 ∧ ¬ x.kind = 8) := by omega
  unfold loud
  rcases hc with h | h | ⟨h, h'⟩
  · rw [h]
    go_enter Tryz.func36, Tryz.ntmps36
    go_wp2
    go_ret
    exact ⟨rfl, below_alloc (Below.refl _ _) _⟩
  · rw [h]
    go_enter Tryz.func36, Tryz.ntmps36
    go_wp2
    go_ret
    exact ⟨rfl, below_alloc (Below.refl _ _) _⟩
  · have t7 : (x.kind == 7) = false := by simpa using h
    have t8 : (x.kind == 8) = false := by simpa using h'
    rw [t7, t8]
    go_enter Tryz.func36, Tryz.ntmps36
    go_wp2
    go_ret
    exact ⟨rfl, below_alloc (Below.refl _ _) _⟩

/-- where the first one lies -/
def LoudAt (L : List EM.Act) (r : Int) : Prop := (r = -1 ∧ ∀ a ∈ L, loud a = false) ∨ ∃ k : Nat, r = (k : Int) ∧ k < L.length ∧ (∀ (j : Nat) y, j < k → L[j]? = some y → loud y = false) ∧ ∃ x, L[k]? = some x ∧ loud x = true
set_option maxRecDepth 100000 in
theorem IndexA_any (v : Value) (L : List EM.Act) (w : World) (h : ActsAt w v L) (hlen : L.length ≤ 1000) :
    Calls Tryz.prog 53 #[v, .func (.func 36) #[] #[]] w fun e w' => ∃ r, e = .returned (.int .i64 r) ∧ LoudAt L r ∧ Below w.heap.size w w' := by
  obtain ⟨p, cap, rfl, hl, _, hc⟩ := h
  have HC := Lib.hid hc
  clear hc
  go_enter Tryz.func53, Tryz.ntmps53
  go_wp2
  go_loopw [5, 8] (fun _ i wr => ∃ k : Nat, k ≤ L.length ∧ i = .int .i64 k ∧ Hid (∀ (j : Nat) y, j < k → L[j]? = some y → loud y = false) ∧ Below w.heap.size w wr) (fun _ i _ => L.length - (intOf i).toNat)
  case atStart => exact ⟨0, Nat.zero_le _, rfl, Lib.hid (fun j y hj => absurd hj (by omega)), Below.refl _ _⟩
  case round =>
    obtain ⟨k, hk, rfl, HA, hb⟩ := hrel
    by_cases hlt : k < L.length
    · obtain ⟨x, hx⟩ : ∃ x, L[k]? = some x := ⟨L[k], List.getElem?_eq_getElem hlt⟩
      obtain ⟨b, off, rfl, hbl, h0⟩ := HC.out k x hx
      have c0 := (hb.cell (p := ⟨b, off + k * 4 + 0, none⟩) hbl).trans (h0 0 (by decide))
      have c1 := (hb.cell (p := ⟨b, off + k * 4 + 1, none⟩) hbl).trans (h0 1 (by decide))
      have c2 := (hb.cell (p := ⟨b, off + k * 4 + 2, none⟩) hbl).trans (h0 2 (by decide))
      have c3 := (hb.cell (p := ⟨b, off + k * 4 + 3, none⟩) hbl).trans (h0 3 (by decide))
      simp only [actC, List.getElem?_cons_zero, List.getElem?_cons_succ, Nat.add_zero] at c0 c1 c2 c3
      have HX := Lib.hid hx
      clear hx h0
      cases ht : loud x with
      | true =>
        have HT := Lib.hid ht
        clear ht
        go_wp2_with (go_at_call 36; refine (loud_any x _).mono ?_; rw [HT.out]; rintro e w1 ⟨rfl, hb1⟩)
        go_ret
        exact ⟨_, rfl, .inr ⟨k, rfl, hlt, HA.out, x, HX.out, HT.out⟩, below_then hb hb1⟩
      | false =>
        have HT := Lib.hid ht
        clear ht
        go_wp2_with (go_at_call 36; refine (loud_any x _).mono ?_; rw [HT.out]; rintro e w1 ⟨rfl, hb1⟩)
        go_roundw
        case rel =>
          refine ⟨k + 1, by omega, by go_num, Lib.hid (fun j y hj hy => ?_), below_then hb hb1⟩
          by_cases hjk : j < k
          · exact HA.out j y hjk hy
          · have : j = k := by omega
            subst this
            have e := HX.out.symm.trans hy
            cases e
            exact HT.out
        case measure => simp [intOf]; omega
    · have hn : ∀ a ∈ L, loud a = false := by
        intro a ha
        obtain ⟨j, hj⟩ := List.getElem?_of_mem ha
        exact HA.out j a (by have := (List.getElem?_eq_some_iff.1 hj).1; omega) hj
      have HN := Lib.hid hn
      clear hn
      go_wp2
      go_ret
      exact ⟨_, rfl, .inl ⟨rfl, HN.out⟩, hb⟩

theorem Tryz.zeroAct (w : World) : (zeroValue 36).run Tryz.prog w = .ok (.agg #[.int .i64 0, .int .i64 0, .string ⟨#[]⟩, .int .i64 0]) w := by kernel_rfl
/-- what quiet leaves -/
def quietL (L : List EM.Act) : List EM.Act := L.filter (fun a => !loud a)
theorem quietL_none {L : List EM.Act} (h : ∀ a ∈ L, loud a = false) : quietL L = L := List.filter_eq_self.2 (fun a ha => by rw [h a ha]; rfl)
theorem quietL_more {L : List EM.Act} {b : Nat} {x : EM.Act} (hx : L[b]? = some x) : quietL (L.take (b + 1)) = quietL (L.take b) ++ (if loud x then [] else [x]) := by
  unfold quietL
  rw [List.take_add_one, hx, List.filter_append]
  cases h : loud x <;> simp [h]

set_option maxRecDepth 100000 in
set_option maxHeartbeats 4000000 in
theorem DeleteA_any (B : Nat) (v : Value) (L : List EM.Act) (W0 w : World) (h : OwnActs B v L W0 w) (hlen : L.length ≤ 1000) :
    Calls Tryz.prog 35 #[v, .func (.func 36) #[] #[]] w fun e w' => ∃ v', e = .returned v' ∧ OwnActs B v' (quietL L) W0 w' := by
  obtain ⟨i0, hi, hz0, hz1, hz2⟩ := info_parts infoAct
  have hidx := IndexA_any v L w (h.rows actE (by omega)) hlen
  have HIDX := Lib.hid hidx
  have H := Lib.hid h
  obtain ⟨pv, cv, rfl⟩ := h.isSlice
  clear h hidx
  go_enter Tryz.func35, Tryz.ntmps35
  go_upto_region 2 with (go_at_call 53; refine HIDX.out.mono ?_; rintro e w1 ⟨r, rfl, hr, hb1⟩)
  have HO1 := Lib.hid (H.out.past hb1)
  clear HIDX H hb1
  rcases hr with ⟨rfl, hnone⟩ | ⟨k, rfl, hk, hbef, x0, hx0, hxl0⟩
  · have HF := Lib.hid (quietL_none hnone)
    clear hnone
    go_wp2
    go_ret
    exact ⟨_, rfl, HO1.out.cast HF.out.symm⟩
  · obtain ⟨g, cap, hv, hB, hg, hlc, hcm⟩ := HO1.out.shape (by omega)
    cases hv
    have hst : L.take k = quietL (L.take (k + 1)) := by
      rw [quietL_more hx0, hxl0, if_pos rfl, List.append_nil, quietL_none]
      intro a ha
      obtain ⟨j, hj⟩ := List.getElem?_of_mem ha
      rw [List.getElem?_take] at hj
      split at hj
      · exact hbef j a (by assumption) hj
      · cases hj
    obtain ⟨N, hN⟩ : ∃ N, N = L.length := ⟨_, rfl⟩
    rw [← hN] at HO1 hk hlc hlen ⊢
    have HST := Lib.hid hst
    have HN := Lib.hid hN
    have t1 : ((k : Int) == -1) = false := by first | (simp; done) | (simp; omega)
    have hwk := IntWalk.i64_in ((k : Int) + 1) (by omega)
    clear hst hbef hx0 hxl0 hN
    go_wp2
    go_loopw [5, 6] (fun i j wr => ∃ (a b : Nat) (M : List EM.Act), a < b ∧ b ≤ N ∧ i = .int .i64 (a : Int) ∧ j = .int .i64 (b : Int) ∧ Hid (M.length = N ∧ M.take a = quietL (L.take b) ∧ M.drop b = L.drop b) ∧ OwnActs B (.slice (some ⟨g, 0, none⟩) N cv) M W0 wr) (fun _ j _ => N - (intOf j).toNat)
    case atStart => exact ⟨k, k + 1, L, by omega, by omega, rfl, by go_num, Lib.hid ⟨HN.out.symm, HST.out, rfl⟩, HO1.out⟩
    case round =>
      clear HO1 hwk t1 HST
      obtain ⟨a, b, M, hab, hbN, rfl, rfl, HM, hown⟩ := hrel
      obtain ⟨hMl, hMt, hMd⟩ := HM.out
      have h1 := hown.1
      rw [hMl] at h1
      have hgr : g < wr.heap.size := (h1.lt g rfl).2
      by_cases hlt : b < N
      · obtain ⟨x, hx⟩ : ∃ x, L[b]? = some x := ⟨L[b]'(by rw [← HN.out]; exact hlt), List.getElem?_eq_getElem _⟩
        have hMx : M[b]? = some x := by
          have e1 : (M.drop b)[0]? = (L.drop b)[0]? := by rw [hMd]
          rw [List.getElem?_drop, List.getElem?_drop, Nat.add_zero, hx] at e1
          exact e1
        obtain ⟨y, hy⟩ : ∃ y, M[a]? = some y := ⟨M[a]'(by omega), List.getElem?_eq_getElem _⟩
        have cb : ∀ j, j < 4 → wr.cell? ⟨g, b * 4 + j, none⟩ = (actC x)[j]? := fun j hj => (h1.cellAt (b * 4 + j) (by omega)).trans (rcells_at actE M b x j hMx hj)
        have ca : ∀ j, j < 4 → wr.cell? ⟨g, a * 4 + j, none⟩ = (actC y)[j]? := fun j hj => (h1.cellAt (a * 4 + j) (by omega)).trans (rcells_at actE M a y j hy hj)
        have c0 := cb 0 (by decide)
        have c1 := cb 1 (by decide)
        have c2 := cb 2 (by decide)
        have c3 := cb 3 (by decide)
        have d0 := ca 0 (by decide)
        have d1 := ca 1 (by decide)
        have d2 := ca 2 (by decide)
        have d3 := ca 3 (by decide)
        have hfz := h1.frozenAt
        simp only [actC, List.getElem?_cons_zero, List.getElem?_cons_succ, Nat.add_zero] at c0 c1 c2 c3 d0 d1 d2 d3
        have hmore := quietL_more hx
        have hdr : (M.set a x).drop (b + 1) = L.drop (b + 1) := by
          rw [List.drop_set_of_lt (by omega), ← List.drop_drop, ← List.drop_drop, hMd]
        have hdr2 : M.drop (b + 1) = L.drop (b + 1) := by rw [← List.drop_drop, ← List.drop_drop, hMd]
        have htk : (M.set a x).take (a + 1) = M.take a ++ [x] := by
          rw [List.take_add_one, List.take_set_of_le (Nat.le_refl _), List.getElem?_set_self (by omega)]
          rfl
        have HOWN := Lib.hid hown
        have HMORE := Lib.hid hmore
        have HDR := Lib.hid hdr
        have HDR2 := Lib.hid hdr2
        have HTK := Lib.hid htk
        have HML := Lib.hid hMl
        have HMT := Lib.hid hMt
        have hwb := IntWalk.i64_in ((b : Int) + 1) (by omega)
        clear hx hMx hy cb ca hmore hdr hdr2 htk hMl hMt hMd hown h1 HM
        cases hl : loud x with
        | true =>
          have HL := Lib.hid hl
          clear hl d0 d1 d2 d3 hfz
          go_wp2_with (go_at_call 36; refine (loud_any x _).mono ?_; rw [HL.out]; rintro e w2 ⟨rfl, hb2⟩)
          go_roundw
          case rel => exact ⟨a, b + 1, M, by omega, by omega, rfl, by go_num, Lib.hid ⟨HML.out, by rw [HMORE.out, HL.out, if_pos rfl, List.append_nil, HMT.out], HDR2.out⟩, (HOWN.out.alloc _).past hb2⟩
          case measure => simp [intOf]; omega
        | false =>
          have HL := Lib.hid hl
          clear hl
          have hne1 : ¬ wr.heap.size = g := by omega
          have hne2 : ¬ g = wr.heap.size := by omega
          have hwa := IntWalk.i64_in ((a : Int) + 1) (by omega)
          go_wp2_with (go_at_call 36; refine (loud_any x _).mono ?_; rw [HL.out]; rintro e w2 ⟨rfl, hb2⟩; have hbx := (ActBox.new wr (.int .i64 x.kind) (.int .i64 x.block) (.string x.data) (.int .i64 x.keep)).keep hb2; obtain ⟨e0, e1, e2, e3, _, _, _, _⟩ := hbx.at; have hw2 : Below wr.heap.size wr w2 := below_then (below_alloc (Below.refl _ _) _) hb2; have g0 := (hw2.cell (p := ⟨g, _, none⟩) hgr).trans d0; have g1 := (hw2.cell (p := ⟨g, _, none⟩) hgr).trans d1; have g2 := (hw2.cell (p := ⟨g, _, none⟩) hgr).trans d2; have g3 := (hw2.cell (p := ⟨g, _, none⟩) hgr).trans d3; have gf : ∀ j, w2.frozen? ⟨g, j, none⟩ = false := (fun j => (hw2.frozen (p := ⟨g, j, none⟩) hgr).trans (hfz j)); clear d0 d1 d2 d3 c0 c1 c2 c3 hfz)
          go_roundw
          case rel =>
            refine ⟨a + 1, b + 1, M.set a x, by omega, by omega, by go_num, by go_num, Lib.hid ⟨by rw [List.length_set, HML.out], by rw [HMORE.out, HL.out, HTK.out, HMT.out]; rfl, HDR.out⟩, ?_⟩
            exact own_set4 ((HOWN.out.alloc _).past hb2) (by rw [HML.out]; omega) x
          case measure => simp [intOf]; omega
      · obtain ⟨cur, hrow, hnM, hB', hcap', hmx', hsz', htk'⟩ := hown.row
        have hbe : b = N := by omega
        have hbel := hown.below
        have hfin : M.take a = quietL L := by rw [hMt, hbe, HN.out, List.take_length]
        rw [hMl] at hcap' htk'
        obtain ⟨zs, hzs⟩ : ∃ zs, zs = rcells actC (List.replicate (N - a) ⟨0, 0, ⟨#[]⟩, 0⟩) := ⟨_, rfl⟩
        have hzl : zs.length = (N - a) * 4 := by rw [hzs, rcells_length actE, List.length_replicate]
        have hfit : a * 4 + zs.length ≤ cur.size := by rw [hzl, hsz']; omega
        have hzz : (Builtin.zeroCells (Value.agg #[.int .i64 0, .int .i64 0, .string ⟨#[]⟩, .int .i64 0]).cells (N - a)).toList = zs := by
          have e := made_rows actE ⟨0, 0, ⟨#[]⟩, 0⟩ (N - a) (Value.agg #[.int .i64 0, .int .i64 0, .string ⟨#[]⟩, .int .i64 0]).cells (by simp [Value.cells, actC])
          have e2 : (madeCells (Value.agg #[.int .i64 0, .int .i64 0, .string ⟨#[]⟩, .int .i64 0]).cells ((N - a) * 4)).toList = zs := by rw [e, hzs]
          exact e2
        obtain ⟨W2, hW2⟩ : ∃ W2, W2 = wr.setRow g (over cur (a * 4) zs) := ⟨_, rfl⟩
        have hcl : ∀ ty, (Builtin.clear_ #[23] ty #[.slice (some ⟨g, a * 4, none⟩) (N - a) (cv - a)]).run Tryz.prog wr = .ok (.tuple #[]) W2 := by
          intro ty
          rw [hW2]
          exact run_clear_tail wr _ _ ty Tryz.underlying23 _ Tryz.zeroAct _ (by omega) zs hzz (by rw [hzs]; exact rcells_one actE _) g _ _ _ hrow hfit
        have hown2 : OwnActs B (.slice (some ⟨g, 0, none⟩) a cv) (quietL L) W0 W2 := by
          have hl2 : (quietL L).length = a := by rw [← hfin, List.length_take, hMl]; omega
          have := OwnR.ofRow actE (L := quietL L) (W0 := W0) (w := W2) (g := g) (cap := cv) (cur := over cur (a * 4) zs) (by rw [hW2]; exact hrow.set) hB' (by rw [hl2]; omega) hmx' (by rw [over_size hfit, hsz']) (by
            rw [hl2, over_before hfit (Nat.le_refl _), ← hfin, ← rcells_take actE M a (by rw [hMl]; omega), ← htk', List.take_take, Nat.min_eq_left (by omega)]) (by rw [hW2]; exact below_setRow hbel hB' _)
          rw [hl2] at this
          exact this
        have HO2 := Lib.hid hown2
        have hac : ¬ cv = a := by omega
        have hac' : a ≤ cv := by omega
        have haN : a ≤ N := by omega
        clear hnM hown2 hW2 hzz hfit hzl hzs htk' hsz' hcap' hrow hfin hbel hown h1 hMl hMt hMd HM
        go_wp2
        go_ret
        exact ⟨_, rfl, HO2.out⟩

set_option maxRecDepth 100000 in
theorem quiet_any (v : Value) (L : List Rw) (w : World) (h : RawsAt w v L) (hok : ∀ r ∈ L, RwOk r) :
    Calls Tryz.prog 19 #[v, .int .i64 50] w fun e w' => ∃ v' A, e = .returned v' ∧ OwnActs w.heap.size v' A w w' ∧ A.length ≤ 50 ∧ (∀ a ∈ A, ActGood a) ∧ ∀ a ∈ A, a.kind ≠ 7 ∧ a.kind ≠ 8 := by
  have hA : Calls Tryz.prog 12 #[v, .int .i64 50] w (ActsRet 50 w) := Acts_any v L 50 (by omega) w h hok
  have HA := Lib.hid hA
  clear h hok hA
  go_enter Tryz.func19, Tryz.ntmps19
  go_wp2_with (first
    | (go_at_call 12; refine HA.out.mono ?_; rintro e w1 ⟨v1, A, rfl, ho1, hl1, hg1⟩; have HO1 := Lib.hid ho1; have HG := Lib.hid hg1; clear ho1 hg1)
    | (go_at_call 35; refine (DeleteA_any _ v1 A w _ HO1.out (by omega)).mono ?_; rintro e w2 ⟨v2, rfl, ho2⟩; have HO2 := Lib.hid ho2; clear ho2))
  go_ret
  refine ⟨_, quietL A, rfl, HO2.out, Nat.le_trans (List.length_filter_le _ _) hl1, fun a ha => HG.out a (List.mem_filter.1 ha).1, fun a ha => ?_⟩
  have := (List.mem_filter.1 ha).2
  simp only [loud, Bool.not_eq_true', Bool.or_eq_false_iff, beq_eq_false_iff_ne] at this
  exact this
end Go.Proofs.YthjaanhkmfiajacGreatDoor

/- The statements' own states of quiet actions: what the blocks read behind each commit, and the last flushed one. Conditions: at most fifty actions, none of them a Crash or a Mark; the numbers are ints. -/
namespace Go.Proofs.YthjaanhkmfiajacGreatDoor
open Go.RowKit

theorem RowsAt.take {α : Type} {enc : α → List Value} {k : Nat} {w : World} {p : Option Addr} {n c : Nat} {L : List α} (h : RowsAt enc k w (.slice p n c) L) {m : Nat} (hm : m ≤ n) : RowsAt enc k w (.slice p m c) (L.take m) := by
  obtain ⟨p', c', he, hl, hn, hc⟩ := h
  cases he
  have hlt : (L.take m).length = m := by rw [List.length_take]; omega
  refine ⟨p, c, by rw [hlt], by omega, hn, fun i x hx => hc i x ?_⟩
  rw [List.getElem?_take] at hx
  split at hx
  · exact hx
  · cases hx
theorem OwnSS.one {w : World} {u : Value} {Y : List ByteArray} (hu : InnerS w u Y) (hu1 : u.oneCell' = true) (e : TypeId) : OwnSS w.heap.size e (.slice (some ⟨w.heap.size, 0, none⟩) 1 1) [Y] w (w.alloc (.cells #[u] e)) := by
  refine ⟨[u], rfl, ⟨rfl, .inr ⟨w.heap.size, 1, #[u], rfl, Nat.le_refl _, heap_alloc_new w _, Nat.le_refl _, by unfold maxLen; omega, rfl, rfl⟩⟩, below_alloc (Below.refl _ _) _, by simp, by simpa using hu1, ?_⟩
  intro i y W hy hW
  match i, hy, hW with
  | 0, hy, hW => cases hy; cases hW; exact hu.keep (below_alloc (Below.refl _ _) _)
  | n + 1, hy, hW => simp at hy
/-- eight empty strings, just made -/
theorem made8 (w : World) : InnerS (w.alloc (.cells (madeCells #[.string ⟨#[]⟩] 8) 9)) (.slice (some ⟨w.heap.size, 0, none⟩) 8 8) (List.replicate 8 ⟨#[]⟩) := by
  have hg : (w.alloc (.cells (madeCells #[.string ⟨#[]⟩] 8) 9)).heap[w.heap.size]? = some (.cells (madeCells #[.string ⟨#[]⟩] 8) 9 (0, 0)) := by
    show (w.heap.push _)[w.heap.size]? = _
    simp
  refine ⟨⟨_, 8, rfl, by simp, (fun h => by cases h), fun i z hz => ⟨w.heap.size, 0, rfl, by simp, ?_⟩⟩, fun p n c hu => ?_⟩
  · rw [Nat.zero_add, cell_of_row _ _ _ _ _ _ hg, ← Array.getElem?_toList, toList_madeCells_one]
    rw [List.getElem?_replicate] at hz ⊢
    split at hz
    · rw [if_pos (by assumption)]
      cases hz
      rfl
    · cases hz
  · cases hu
    exact ⟨_, _, hg⟩
theorem rds_new8 : rds (newV 8) = List.replicate 8 ⟨#[]⟩ := by
  have h := new_ok (n := 8) (by omega)
  apply List.ext_getElem?
  intro i
  by_cases hi : i < 8
  · have : i = 0 ∨ i = 1 ∨ i = 2 ∨ i = 3 ∨ i = 4 ∨ i = 5 ∨ i = 6 ∨ i = 7 := by omega
    rcases this with rfl | rfl | rfl | rfl | rfl | rfl | rfl | rfl <;> rfl
  · rw [List.getElem?_eq_none (by rw [rds_len]; simp [newV]; omega), List.getElem?_eq_none (by simp; omega)]

/-- the run's state behind k actions, and its answer at k -/
theorem run_at_k {A : List EM.Act} {k : Nat} {a : EM.Act} (hk : A[k]? = some a) :
    (EM.runL (EM.start 8) (A.take (k + 1))).1 = (EM.step (EM.runL (EM.start 8) (A.take k)).1 a).1 ∧ (EM.runL (EM.start 8) A).2[k]? = some (EM.step (EM.runL (EM.start 8) (A.take k)).1 a).2 := by
  have hkl := (List.getElem?_eq_some_iff.1 hk).1
  constructor
  · rw [List.take_add_one, hk]
    show (EM.runL (EM.start 8) (A.take k ++ [a])).1 = _
    rw [EM.runL_append]
    rfl
  · have e : A = A.take k ++ a :: A.drop (k + 1) := by
      rw [← (List.getElem?_eq_some_iff.1 hk).2, ← List.drop_eq_getElem_cons hkl, List.take_append_drop]
    have hl : (EM.runL (EM.start 8) (A.take k)).2.length = k := by rw [EM.runL_len, List.length_take]; omega
    have : (EM.runL (EM.start 8) (A.take k ++ a :: A.drop (k + 1))).2[k]? = some (EM.step (EM.runL (EM.start 8) (A.take k)).1 a).2 := by
      rw [EM.runL_append]
      show ((EM.runL (EM.start 8) (A.take k)).2 ++ _)[k]? = _
      rw [List.getElem?_append_right (by omega), hl, Nat.sub_self]
      rfl
    rw [← e] at this
    exact this
/-- the state of states' loop -/
def StK (A : List EM.Act) (k : Nat) (H : List (List ByteArray)) (la : Nat) : Prop :=
  H = EM.hist (EM.runL (EM.start 8) (A.take k)).1.base (EM.runL (EM.start 8) (A.take k)).1.deals ∧ la = (EM.runL (EM.start 8) (A.take k)).1.last
theorem StK.start (A : List EM.Act) : StK A 0 [List.replicate 8 ⟨#[]⟩] 0 := by
  unfold StK
  rw [List.take_zero]
  refine ⟨?_, rfl⟩
  show _ = EM.hist (newV 8) []
  rw [EM.hist_nil, rds_new8]
/-- one more action -/
theorem StK.more {A : List EM.Act} {k : Nat} {H : List (List ByteArray)} {la : Nat} {a : EM.Act} (h : StK A k H la) (hk : A[k]? = some a) (h7 : a.kind ≠ 7 ∧ a.kind ≠ 8) : ∃ z : EM.Ans, (EM.runL (EM.start 8) A).2[k]? = some z ∧
    ((z.code ≠ 0 ∧ StK A (k + 1) H la) ∨ (z.code = 0 ∧ a.kind = 4 ∧ StK A (k + 1) (H ++ [reads8 (A.take (k + 1))]) la) ∨ (z.code = 0 ∧ a.kind = 6 ∧ StK A (k + 1) H (H.length - 1)) ∨ (z.code = 0 ∧ a.kind ≠ 4 ∧ a.kind ≠ 6 ∧ StK A (k + 1) H la)) := by
  obtain ⟨h1, h2⟩ := run_at_k hk
  obtain ⟨hH, hla⟩ := h
  obtain ⟨hb, hc⟩ := EM.step_quiet (EM.runL (EM.start 8) (A.take k)).1 a h7.1 h7.2
  refine ⟨_, h2, ?_⟩
  unfold StK reads8
  rw [h1, hb]
  rcases hc with ⟨c1, c2, c3, c4⟩ | ⟨c1, c2, c3, c4⟩ | ⟨c1, c2, c3, c4⟩
  · refine .inr (.inl ⟨c2, c1, ?_, ?_⟩)
    · rw [c3, EM.hist_snoc, ← hH]
      unfold EM.St.now
      rw [hb, c3]
    · rw [c4]; exact hla
  · refine .inr (.inr (.inl ⟨c2, c1, ?_, ?_⟩))
    · rw [c3]; exact hH
    · rw [c4, hH, EM.hist_len]; rfl
  · by_cases h0 : (EM.step (EM.runL (EM.start 8) (A.take k)).1 a).2.code = 0
    · refine .inr (.inr (.inr ⟨h0, ?_, c2, ?_, ?_⟩))
      · rcases c1 with c1 | c1
        · exact c1
        · exact absurd h0 c1
      · rw [c3]; exact hH
      · rw [c4]; exact hla
    · refine .inl ⟨h0, ?_, ?_⟩
      · rw [c3]; exact hH
      · rw [c4]; exact hla
theorem StK.len {A : List EM.Act} {k : Nat} {H : List (List ByteArray)} {la : Nat} (h : StK A k H la) : 1 ≤ H.length := by
  rw [h.1, EM.hist_len]
  omega

theorem infoStrs : (Tryz.prog.info? 51).map (fun i => (i.zero, i.size, i.bytes)) = some (some (.slice none 0 0), 1, 24) := by kernel_rfl

set_option maxRecDepth 100000 in
set_option maxHeartbeats 4000000 in
theorem states_any (pu : Option Addr) (cu : Nat) (A : List EM.Act) (w : World) (hu : ActsAt w (.slice pu A.length cu) A) (hcap : A.length ≤ cu) (hl : A.length ≤ 50) (hok : ∀ a ∈ A, ActGood a) (hq : ∀ a ∈ A, a.kind ≠ 7 ∧ a.kind ≠ 8) :
    Calls Tryz.prog 20 #[.slice pu A.length cu] w fun e w' => ∃ v H la, e = .returned (.tuple #[v, .int .i64 (la : Nat), .bool true]) ∧ StK A A.length H la ∧ StrssAt w' v H ∧ Below w.heap.size w w' := by
  obtain ⟨i0, hi, hz0, hz1, hz2⟩ := info_parts infoStrs
  obtain ⟨i1, hi1, hy0, hy1, hy2⟩ := info_parts Tryz.infoStr
  have hrun := run_at _ A (by omega) (fun a ha => (hok a ha).ok) w hu
  unfold RunsRet at hrun
  have hXl : (EM.runL (EM.start 8) A).2.length = A.length := EM.runL_len A _
  generalize (EM.runL (EM.start 8) A).1.now = V at hrun
  have hmk : ∀ (w : World), (Instr.makeSlice 51 (.int .i64 8) (.int .i64 8)).run Tryz.prog w = .ok (.slice (some ⟨w.heap.size, 0, none⟩) 8 8) (w.alloc (.cells (madeCells #[.string ⟨#[]⟩] 8) 9)) := by
    intro w
    rw [run_make w _ _ i1 _ Tryz.underlying51 hi1 hy0 .i64 .i64 8 8 (by omega) (Int.le_refl _) (by rw [hy2]; omega) (by omega), hy1]
    rfl
  have HU := Lib.hid hu
  have HQ := Lib.hid hq
  have HOK := Lib.hid hok
  have HRUN := Lib.hid hrun
  have HXL := Lib.hid hXl
  obtain ⟨pu', cu', hpu', _, hnu, hcu⟩ := hu
  cases hpu'
  have HCU := Lib.hid hcu
  clear hq hok hrun hXl hcu hi1 hy0 hy1 hy2
  go_enter Tryz.func20, Tryz.ntmps20
  go_upto_region 2 with (go_at_call 21; refine HRUN.out.mono ?_; rintro e w1 ⟨v1, x1, y1, rfl, ha1, hv1, hb1⟩; obtain ⟨px, cx, qx, dx, rfl, rfl⟩ := hv1.slices; obtain ⟨pa, ca, rfl, _, _, hca⟩ := id ha1)
  rw [HXL.out]
  obtain ⟨W2, hW2⟩ : ∃ W, W = w1.alloc (.cells #[.slice px V.items.length cx, .slice qx V.blocks.length dx] 30) := ⟨_, rfl⟩
  have hal : Below w1.heap.size w1 W2 := by rw [hW2]; exact below_alloc (Below.refl _ _) _
  have hb2 := below_then hb1 hal
  have hXA : RowsAt ansC 5 W2 (.slice pa (EM.runL (EM.start 8) A).2.length ca) (EM.runL (EM.start 8) A).2 := ha1.keep hal
  obtain ⟨_, _, hpa, _, _, hXc⟩ := hXA
  cases hpa
  have hst := (OwnSS.one (made8 W2) (by rfl) 51).lower (B := W2.heap.size) (W0 := W2) (by simp) (below_alloc (Below.refl _ _) _)
  rw [show (W2.alloc (.cells (madeCells #[.string ⟨#[]⟩] 8) 9)).heap.size = W2.heap.size + 1 by simp] at hst
  rw [← hW2]
  have HXC := Lib.hid hXc
  have HST := Lib.hid hst
  clear hst hXc hW2 hal ha1 hv1 hb1 hca HRUN
  go_wp2
  go_loopw [8, 9, 24] (fun out la i wr => ∃ (k : Nat) (H : List (List ByteArray)) (n : Nat), k ≤ A.length ∧ i = .int .i64 (k : Int) ∧ la = .int .i64 (n : Int) ∧ H.length ≤ k + 1 ∧ Hid (StK A k H n) ∧ OwnSS W2.heap.size 51 out H W2 wr) (fun _ _ i _ => A.length - (intOf i).toNat)
  case atStart => exact ⟨0, _, 0, Nat.zero_le _, rfl, rfl, by simp, Lib.hid (StK.start A), HST.out⟩
  case round =>
    clear HST hmk
    obtain ⟨k, H, n, hk, rfl, rfl, hHl, HK, hown⟩ := hrel
    obtain ⟨po, co, rfl⟩ := hown.isSlice
    have hbr : Below W2.heap.size W2 wr := hown.below
    have hH1 := HK.out.len
    have hbw := below_then hb2 hbr
    have HOWN := Lib.hid hown
    clear hown
    by_cases hlt : k < A.length
    · obtain ⟨a, ha⟩ : ∃ a, A[k]? = some a := ⟨A[k], List.getElem?_eq_getElem hlt⟩
      obtain ⟨b, off, rfl, hbl, h0⟩ := HCU.out k a ha
      obtain ⟨z, hz, hcase⟩ := HK.out.more ha (HQ.out a (List.mem_of_getElem? ha))
      obtain ⟨bx, ox, rfl, hblx, hx0⟩ := HXC.out k z hz
      have c0 := (hbw.cell (p := ⟨b, off + k * 4 + 0, none⟩) hbl).trans (h0 0 (by decide))
      have c1 := (hbw.cell (p := ⟨b, off + k * 4 + 1, none⟩) hbl).trans (h0 1 (by decide))
      have c2 := (hbw.cell (p := ⟨b, off + k * 4 + 2, none⟩) hbl).trans (h0 2 (by decide))
      have c3 := (hbw.cell (p := ⟨b, off + k * 4 + 3, none⟩) hbl).trans (h0 3 (by decide))
      have xc := (hbr.cell (p := ⟨bx, ox + k * 5 + 0, none⟩) hblx).trans (hx0 0 (by decide))
      have hblr := Nat.lt_of_lt_of_le hblx hbr.size
      simp only [actC, ansC, List.getElem?_cons_zero, List.getElem?_cons_succ, Nat.add_zero] at c0 c1 c2 c3 xc
      have hne1 : ¬ wr.heap.size = bx := by omega
      have hne2 : ¬ bx = wr.heap.size := by omega
      have hX1 : (k : Int) < (A.length : Int) := by omega
      clear ha hz h0 hx0 hbl hblx
      rcases hcase with ⟨hc, hk'⟩ | ⟨hc, h4, hk'⟩ | ⟨hc, h6, hk'⟩ | ⟨hc, h4, h6, hk'⟩
      · have t0 : (z.code != 0) = true := by simpa using hc
        have HK' := Lib.hid hk'
        clear hk' hc
        go_wp2
        go_roundw
        case rel => exact ⟨k + 1, H, n, by omega, by go_num, rfl, by omega, HK', HOWN.out.alloc _⟩
        case measure => simp [intOf]; omega
      · rw [hc] at xc
        rw [h4] at c0
        have HK' := Lib.hid hk'
        have hwk := IntWalk.i64_in ((k : Int) + 1) (by omega)
        have hle1 : k + 1 ≤ cu := by omega
        clear hk' hc h4
        go_wp2_with (first
          | (go_at_call 26; refine (reads_any _ (A.take (k + 1)) (by rw [List.length_take]; omega) (fun a ha => (HOK.out a (List.mem_of_mem_take ha)).ok) _ ((HU.out.keep (below_then hbw (below_alloc (Below.refl _ _) _))).take (by omega))).mono ?_; rintro e w5 ⟨v5, rfl, ho5⟩; change OwnS _ _ v5 (reads8 (A.take (k + 1))) _ _ at ho5; obtain ⟨g5, c5, rfl, _⟩ := ho5.shape (by rw [reads8_len]; decide); have hin5 := ho5.inner (by rw [reads8_len]; decide); rw [reads8_len] at hin5 ⊢; have HIN5 := Lib.hid hin5; have HB5 := Lib.hid ho5.below; clear hin5 ho5)
          | (at_builtin; refine wpList_own_strs rfl (.tmp 53) (.tmp 55) 45 rfl W2.heap.size 51 (by decide) i0 _ Tryz.underlying45 hi hz0 rfl hz1 hz2 _ H rfl W2 w5 _ (reads8 (A.take (k + 1))) rfl HIN5.out ((HOWN.out.alloc _).past HB5.out) _ rfl rfl (by omega) ?_; intro v6 w6 ho6 hg6))
        go_roundw
        case rel => exact ⟨k + 1, _, n, by omega, by go_num, rfl, by simp; omega, HK', ho6⟩
        case measure => simp [intOf]; omega
      · rw [hc] at xc
        rw [h6] at c0
        have HK' := Lib.hid hk'
        have hwk := IntWalk.i64_in ((H.length : Int) - 1) (by omega)
        clear hk' hc h6
        go_wp2
        go_roundw
        case rel => exact ⟨k + 1, H, H.length - 1, by omega, by go_num, by congr 1; omega, by omega, HK', HOWN.out.alloc _⟩
        case measure => simp [intOf]; omega
      · rw [hc] at xc
        have t4 : (a.kind == 4) = false := by simpa using h4
        have t6 : (a.kind == 6) = false := by simpa using h6
        have HK' := Lib.hid hk'
        clear hk' hc h4 h6
        go_wp2
        go_roundw
        case rel => exact ⟨k + 1, H, n, by omega, by go_num, rfl, by omega, HK', HOWN.out.alloc _⟩
        case measure => simp [intOf]; omega
    · have hke : k = A.length := by omega
      subst hke
      go_wp2
      exact bodyPost_ret (v := .tuple #[.slice po H.length co, .int .i64 (n : Int), .bool true]) (by simp [results, Tryz.results20, go_sem]) rfl ⟨_, H, n, rfl, HK.out, HOWN.out.strss (by omega), hbw⟩
end Go.Proofs.YthjaanhkmfiajacGreatDoor
