/- The plain mathematics of items, volumes, writes, logs and engines, and rows that a call owns: texts merged into one. No condition but those in the statements. -/
import Derived.Test.YthjaanhkmfiajacPure
import Derived.Test.YthjaanhkmfiajacRepoMap
/- What all blocks read, as a list; writes laid over it; the different nonempty data among it, counted by a map's datum. No program's run. -/
namespace Go.Proofs.Ythjaanhkmfiajac
open Go.RowKit Go.Maps

/-- what the blocks read -/
def rds (V : Vol) : List ByteArray := (List.range V.blocks.length).map (rd V)
theorem rds_len (V : Vol) : (rds V).length = V.blocks.length := by simp [rds]
theorem rds_at {V : Vol} {b : Nat} (h : b < V.blocks.length) : (rds V)[b]? = some (rd V b) := by simp [rds, h]
theorem rds_mem {V : Vol} {d : ByteArray} : d ∈ rds V ↔ ∃ b, b < V.blocks.length ∧ rd V b = d := by simp [rds]
theorem rd_size {V : Vol} (h : VOk V) (b : Nat) (hb : b < V.blocks.length) : (rd V b).size ≤ 48 := by
  obtain ⟨z, _, h1 | ⟨x, hx, _, hxd⟩⟩ := rd_is h hb
  · rw [h1.2]; decide
  · rw [← hxd]; exact (may_mem h.may hx).2.2.1

/-- writes laid over what was read -/
def ovr (D : List ByteArray) (W : List Wr) : List ByteArray := W.foldl (fun D x => D.set x.block.toNat x.data) D
theorem ovr_len : ∀ (W : List Wr) (D : List ByteArray), (ovr D W).length = D.length
  | [], _ => rfl
  | x :: W, D => by
    show (ovr (D.set x.block.toNat x.data) W).length = _
    rw [ovr_len W, List.length_set]
theorem ovr_snoc {W : List Wr} {k : Nat} {x : Wr} (hx : W[k]? = some x) (D : List ByteArray) : ovr D (W.take (k + 1)) = (ovr D (W.take k)).set x.block.toNat x.data := by
  unfold ovr
  rw [take_snoc hx, List.foldl_append]
  rfl
theorem ovr_at : ∀ (W : List Wr) (D : List ByteArray) (b : Nat), W.Pairwise (fun x y => x.block < y.block) → (∀ x ∈ W, 0 ≤ x.block) → b < D.length →
    (ovr D W)[b]? = match W.find? (fun x => x.block == (b : Int)) with
      | some x => some x.data
      | none => D[b]?
  | [], _, _, _, _, _ => rfl
  | x :: W, D, b, hp, h0, hb => by
    obtain ⟨h1, h2⟩ := List.pairwise_cons.1 hp
    have hx0 := h0 x (by simp)
    show (ovr (D.set x.block.toNat x.data) W)[b]? = _
    rw [ovr_at W _ b h2 (fun y hy => h0 y (by simp [hy])) (by rw [List.length_set]; exact hb)]
    by_cases hxb : x.block = (b : Int)
    · have hn : W.find? (fun y => y.block == (b : Int)) = none := by
        rw [List.find?_eq_none]
        intro y hy
        have := h1 y hy
        simp
        omega
      rw [hn, List.find?_cons_of_pos (by simpa using hxb)]
      have : x.block.toNat = b := by omega
      simp [this, hb]
    · rw [List.find?_cons_of_neg (by simpa using hxb)]
      have hne : x.block.toNat ≠ b := by omega
      cases W.find? (fun y => y.block == (b : Int)) with
      | some y => rfl
      | none => simp only; rw [List.getElem?_set_ne hne]
theorem ovr_applied {V : Vol} (h : VOk V) (h16 : V.blocks.length ≤ 16) {W : List Wr} (hW : WOk W V.blocks.length) : ovr (rds V) W = rds (applied V W).1 := by
  obtain ⟨_, _, h3, h4⟩ := apply_ok h h16 hW
  apply List.ext_getElem?
  intro b
  by_cases hb : b < V.blocks.length
  · rw [ovr_at W _ b hW.up (fun x hx => (hW.all x hx).1) (by rw [rds_len]; exact hb), rds_at hb, rds_at (by rw [h3]; exact hb), h4 b hb]
    unfold upd
    cases W.find? (fun x => x.block == (b : Int)) <;> rfl
  · rw [List.getElem?_eq_none (by rw [ovr_len, rds_len]; omega), List.getElem?_eq_none (by rw [rds_len, h3]; omega)]

/-- the map's datum after k rounds -/
def smap (D : List ByteArray) : Nat → DataW Unit
  | 0 => .map []
  | k + 1 => match D[k]? with
    | some d => if 0 < d.size then (smap D k).put (dkey d) (.lit (.bool true)) else smap D k
    | none => smap D k
theorem smap_succ {D : List ByteArray} {k : Nat} {d : ByteArray} (hd : D[k]? = some d) (h1 : 0 < d.size) : smap D (k + 1) = (smap D k).put (dkey d) (.lit (.bool true)) := by
  show (match D[k]? with | some d => if 0 < d.size then (smap D k).put (dkey d) (.lit (.bool true)) else smap D k | none => smap D k) = _
  rw [hd]
  simp only [if_pos h1]
theorem smap_skip {D : List ByteArray} {k : Nat} {d : ByteArray} (hd : D[k]? = some d) (h1 : ¬ 0 < d.size) : smap D (k + 1) = smap D k := by
  show (match D[k]? with | some d => if 0 < d.size then (smap D k).put (dkey d) (.lit (.bool true)) else smap D k | none => smap D k) = _
  rw [hd]
  simp only [if_neg h1]
theorem smap_tidy (D : List ByteArray) : ∀ k, k ≤ D.length → Tidy (smap D k)
  | 0, _ => tidy_empty
  | k + 1, hk => by
    have hd := List.getElem?_eq_getElem (l := D) (i := k) (by omega)
    have ih := smap_tidy D k (by omega)
    by_cases h1 : 0 < D[k].size
    · rw [smap_succ hd h1]; exact ih.put (dkey_is _) _
    · rw [smap_skip hd h1]; exact ih
open Classical in
theorem smap_keys {D : List ByteArray} : ∀ k, k ≤ D.length → ∃ K : List ByteArray, K.Nodup ∧ size (smap D k) = K.length ∧ (∀ y, has (smap D k) (dkey y) = decide (y ∈ K)) ∧ ∀ y, y ∈ K ↔ (y ∈ D.take k ∧ 0 < y.size)
  | 0, _ => ⟨[], List.nodup_nil, rfl, fun y => by simp [smap, has], fun y => by simp⟩
  | k + 1, hk => by
    obtain ⟨K, h1, h2, h3, h4⟩ := smap_keys (D := D) k (by omega)
    have hd := List.getElem?_eq_getElem (l := D) (i := k) (by omega)
    have hm : ∀ y, y ∈ D.take (k + 1) ↔ y ∈ D.take k ∨ y = D[k] := by
      intro y
      rw [take_snoc hd, List.mem_append, List.mem_singleton]
    by_cases e1 : 0 < D[k].size
    · rw [smap_succ hd e1]
      by_cases e2 : D[k] ∈ K
      · refine ⟨K, h1, ?_, fun y => ?_, fun y => ?_⟩
        · rw [size_put (smap_tidy D k (by omega)), h3, if_pos (by simpa using e2), h2]
        · by_cases e3 : y = D[k]
          · subst e3
            rw [has_put_same (smap_tidy D k (by omega)).isMap (dkey_is _)]
            exact (decide_eq_true e2).symm
          · rw [has_put_other (fun e => e3 (dkey_inj e)), h3]
        · rw [hm]
          constructor
          · intro a; exact ⟨Or.inl ((h4 y).1 a).1, ((h4 y).1 a).2⟩
          · rintro ⟨a | a, b⟩
            · exact (h4 y).2 ⟨a, b⟩
            · rw [a]; exact e2
      · refine ⟨D[k] :: K, List.nodup_cons.2 ⟨e2, h1⟩, ?_, fun y => ?_, fun y => ?_⟩
        · rw [size_put (smap_tidy D k (by omega)), h3, if_neg (by simpa using e2), h2]; rfl
        · by_cases e3 : y = D[k]
          · subst e3
            rw [has_put_same (smap_tidy D k (by omega)).isMap (dkey_is _)]
            simp
          · rw [has_put_other (fun e => e3 (dkey_inj e)), h3]
            simp [e3]
        · rw [hm, List.mem_cons, h4]
          constructor
          · rintro (a | ⟨a, b⟩)
            · exact ⟨Or.inr a, by rw [a]; exact e1⟩
            · exact ⟨Or.inl a, b⟩
          · rintro ⟨a | a, b⟩
            · exact Or.inr ⟨a, b⟩
            · exact Or.inl a
    · rw [smap_skip hd e1]
      refine ⟨K, h1, h2, h3, fun y => ?_⟩
      rw [h4, hm]
      constructor
      · rintro ⟨a, b⟩; exact ⟨Or.inl a, b⟩
      · rintro ⟨a | a, b⟩
        · exact ⟨a, b⟩
        · rw [a] at b; exact absurd b e1
open Classical in
theorem smap_items {V : Vol} (h : VOk V) : size (smap (rds V) (rds V).length) = V.items.length := by
  obtain ⟨K, h1, h2, _, h4⟩ := smap_keys (D := rds V) (rds V).length (Nat.le_refl _)
  rw [List.take_length] at h4
  rw [h2, items_count h h1 (fun d => by rw [h4, rds_mem]; exact And.comm)]
end Go.Proofs.Ythjaanhkmfiajac

/- The engine as a plain machine over volumes (P5.1 to P5.4), and what holds of its runs. No program's run. -/
namespace Go.Proofs.Ythjaanhkmfiajac
open LM
namespace EM

structure Act where
  kind : Int
  block : Int
  data : ByteArray
  keep : Int
structure Ans where
  code : Int
  data : ByteArray
  items : Int
  log : Int
  count : Int
def err (e : Int) : Ans := ⟨e, ⟨#[]⟩, 0, 0, 0⟩
def ok : Ans := err 0
structure St where
  base : Vol
  deals : List (List Wr)
  last : Nat
  op : Bool
  l : List Wr

def after (V : Vol) (D : List (List Wr)) : Vol := D.foldl (fun V W => (applied V W).1) V
def St.now (s : St) : Vol := after s.base s.deals
def putW : List Wr → Wr → List Wr
  | [], w => [w]
  | x :: l, w => if x.block < w.block then x :: putW l w else if x.block = w.block then w :: l else w :: x :: l
def step (s : St) (a : Act) : St × Ans :=
  if a.kind = 1 then ({ s with op := true }, if s.op then err 7 else ok)
  else if a.kind = 2 then
    if s.op = false then (s, err 7)
    else if ¬ (0 ≤ a.block ∧ a.block ≤ (s.now.blocks.length : Int) - 1) then (s, err 6)
    else if 48 < a.data.size ∨ 12 < (putW s.l ⟨a.block, a.data⟩).length then (s, err 1)
    else ({ s with l := putW s.l ⟨a.block, a.data⟩ }, ok)
  else if a.kind = 3 then
    (s, ⟨(readOf s.now a.block).2, match s.l.find? (fun x => x.block == a.block) with
      | some x => x.data
      | none => (readOf s.now a.block).1, 0, 0, 0⟩)
  else if a.kind = 4 then
    if s.op = false then (s, err 7)
    else if (applied s.now s.l).2 ≠ 0 then ({ s with op := false, l := [] }, err (applied s.now s.l).2)
    else if 4000 < (bytesOf s.deals).length + (recL s.l).length then ({ s with op := false, l := [] }, err 1)
    else ({ s with op := false, l := [], deals := s.deals ++ [s.l] }, ok)
  else if a.kind = 5 then ({ s with op := false, l := [] }, if s.op then ok else err 7)
  else if a.kind = 6 then ({ s with last := s.deals.length }, ok)
  else if a.kind = 7 then
    if a.keep < 0 then (s, err 2)
    else (⟨s.base, s.deals.take (s.last + fits (s.deals.drop s.last) a.keep.toNat), s.last + fits (s.deals.drop s.last) a.keep.toNat, false, []⟩, { ok with count := ((s.last + fits (s.deals.drop s.last) a.keep.toNat : Nat) : Int) })
  else if a.kind = 8 then ({ s with base := s.now, deals := [], last := 0 }, ok)
  else if a.kind = 9 then (s, { ok with items := (s.now.items.length : Int), log := ((bytesOf s.deals).length : Int) })
  else (s, err 3)
def runL (s : St) : List Act → St × List Ans
  | [] => (s, [])
  | a :: l => ((runL (step s a).1 l).1, (step s a).2 :: (runL (step s a).1 l).2)
theorem runL_append : ∀ (l m : List Act) (s : St), runL s (l ++ m) = ((runL (runL s l).1 m).1, (runL s l).2 ++ (runL (runL s l).1 m).2)
  | [], m, s => rfl
  | a :: l, m, s => by
    show ((runL (step s a).1 (l ++ m)).1, (step s a).2 :: (runL (step s a).1 (l ++ m)).2) = _
    rw [runL_append l m]
    rfl
theorem runL_len : ∀ (l : List Act) (s : St), (runL s l).2.length = l.length
  | [], s => rfl
  | a :: l, s => by
    show ((step s a).2 :: (runL (step s a).1 l).2).length = _
    rw [List.length_cons, runL_len l, List.length_cons]
def start (n : Nat) : St := ⟨newV n, [], 0, false, []⟩

/-- each transaction could be applied behind those ahead of it -/
def AllOk : Vol → List (List Wr) → Prop
  | _, [] => True
  | V, W :: D => (applied V W).2 = 0 ∧ AllOk (applied V W).1 D
theorem AllOk.ok : ∀ {D : List (List Wr)} {V : Vol}, VOk V → AllOk V D → VOk (after V D) ∧ (after V D).blocks.length = V.blocks.length ∧ ∀ W ∈ D, WOk W V.blocks.length
  | [], V, h, _ => ⟨h, rfl, by simp⟩
  | W :: D, V, h, hD => by
    obtain ⟨h1, h2, h3⟩ := apply_valid h hD.1
    obtain ⟨g1, g2, g3⟩ := AllOk.ok (D := D) h1 hD.2
    refine ⟨g1, g2.trans h2, fun X hX => ?_⟩
    rcases List.mem_cons.1 hX with rfl | hX
    · exact h3
    · rw [← h2]; exact g3 X hX
theorem AllOk.append : ∀ {D E : List (List Wr)} {V : Vol}, AllOk V D → AllOk (after V D) E → AllOk V (D ++ E)
  | [], _, _, _, h => h
  | _ :: D, _, _, h, h2 => ⟨h.1, AllOk.append (D := D) h.2 h2⟩
theorem AllOk.take : ∀ {D : List (List Wr)} {V : Vol} (k : Nat), AllOk V D → AllOk V (D.take k)
  | [], V, k, _ => by rw [List.take_nil]; trivial
  | _ :: _, _, 0, _ => trivial
  | _ :: D, _, k + 1, h => ⟨h.1, AllOk.take (D := D) k h.2⟩
theorem AllOk.at : ∀ {D : List (List Wr)} {V : Vol} {k : Nat} {W : List Wr}, AllOk V D → D[k]? = some W → (applied (after V (D.take k)) W).2 = 0
  | [], _, _, _, _, hk => by simp at hk
  | X :: D, V, 0, W, h, hk => by simp at hk; subst hk; exact h.1
  | X :: D, V, k + 1, W, h, hk => AllOk.at (D := D) (V := (applied V X).1) h.2 (by simpa using hk)
theorem AllOk.of {n : Nat} (hn : n ≤ 16) : ∀ {D : List (List Wr)} {V : Vol}, VOk V → V.blocks.length = n → (∀ W ∈ D, WOk W n) → AllOk V D
  | [], _, _, _, _ => trivial
  | W :: D, V, h, hl, hD => by
    obtain ⟨h1, h2, h3, _⟩ := apply_ok h (by omega) (W := W) (by rw [hl]; exact hD W (by simp))
    exact ⟨h1, AllOk.of hn h2 (h3.trans hl) (fun X hX => hD X (by simp [hX]))⟩

structure Inv (n : Nat) (s : St) : Prop where
  base : VOk s.base
  len : s.base.blocks.length = n
  each : AllOk s.base s.deals
  last : s.last ≤ s.deals.length
  l : WOk s.l n
  shut : s.op = false → s.l = []
  log : (bytesOf s.deals).length ≤ 4000
theorem wok_nil (n : Nat) : WOk [] n := ⟨by simp, by simp, List.Pairwise.nil⟩
theorem Inv.now {n : Nat} {s : St} (h : Inv n s) : VOk s.now ∧ s.now.blocks.length = n := by
  obtain ⟨h1, h2, _⟩ := h.each.ok h.base
  exact ⟨h1, h2.trans h.len⟩
theorem Inv.deals {n : Nat} {s : St} (h : Inv n s) : ∀ W ∈ s.deals, WOk W n := by
  obtain ⟨_, _, h3⟩ := h.each.ok h.base
  rw [h.len] at h3
  exact h3
theorem Inv.n32 {n : Nat} {s : St} (h : Inv n s) : 1 ≤ n ∧ n ≤ 32 := by rw [← h.len]; exact h.base.len
theorem Inv.good {n : Nat} {s : St} (h : Inv n s) : ∀ W ∈ s.deals, LM.Good n W := fun W hW => ⟨wFault_of (h.deals W hW), h.n32.2⟩
theorem after_snoc (V : Vol) (D : List (List Wr)) (W : List Wr) : after V (D ++ [W]) = (applied (after V D) W).1 := by
  unfold after
  rw [List.foldl_append]
  rfl
theorem putW_mem : ∀ (l : List Wr) (w x : Wr), x ∈ putW l w → x = w ∨ x ∈ l
  | [], w, x, h => by simpa [putW] using h
  | y :: l, w, x, h => by
    unfold putW at h
    split at h
    · rcases List.mem_cons.1 h with rfl | h
      · exact .inr (by simp)
      · rcases putW_mem l w x h with h | h
        · exact .inl h
        · exact .inr (by simp [h])
    · split at h
      · rcases List.mem_cons.1 h with rfl | h
        · exact .inl rfl
        · exact .inr (by simp [h])
      · rcases List.mem_cons.1 h with rfl | h
        · exact .inl rfl
        · exact .inr h
theorem putW_up : ∀ (l : List Wr) (w : Wr), l.Pairwise (fun x y => x.block < y.block) → (putW l w).Pairwise (fun x y => x.block < y.block)
  | [], w, _ => by simp [putW]
  | y :: l, w, h => by
    obtain ⟨h1, h2⟩ := List.pairwise_cons.1 h
    unfold putW
    split
    · refine List.pairwise_cons.2 ⟨fun x hx => ?_, putW_up l w h2⟩
      rcases putW_mem l w x hx with rfl | hx
      · assumption
      · exact h1 x hx
    · split
      · rename_i he
        exact List.pairwise_cons.2 ⟨fun x hx => by rw [← he]; exact h1 x hx, h2⟩
      · refine List.pairwise_cons.2 ⟨fun x hx => ?_, h⟩
        rcases List.mem_cons.1 hx with rfl | hx
        · omega
        · have := h1 x hx; omega
theorem putW_ok {n : Nat} {l : List Wr} {w : Wr} (h : WOk l n) (h0 : 0 ≤ w.block ∧ w.block < (n : Int)) (hd : w.data.size ≤ 48) (h12 : (putW l w).length ≤ 12) : WOk (putW l w) n := by
  refine ⟨h12, fun x hx => ?_, putW_up l w h.up⟩
  rcases putW_mem l w x hx with rfl | hx
  · exact ⟨h0.1, h0.2, hd⟩
  · exact h.all x hx
theorem bytes_drop (D : List (List Wr)) (k : Nat) : (bytesOf (D.drop k)).length ≤ (bytesOf D).length := by
  have := congrArg (fun L => (bytesOf L).length) (List.take_append_drop k D)
  unfold bytesOf at this ⊢
  simp only [List.flatMap_append, List.length_append] at this
  omega
theorem Inv.start {n : Nat} (h : 1 ≤ n ∧ n ≤ 32) : Inv n (start n) :=
  ⟨new_ok h, by simp [EM.start, newV], trivial, Nat.zero_le _, wok_nil n, fun _ => rfl, by simp [EM.start, bytesOf]⟩
theorem step_inv {n : Nat} {s : St} (h : Inv n s) (a : Act) : Inv n (step s a).1 := by
  obtain ⟨hv, hl⟩ := h.now
  unfold step
  by_cases k1 : a.kind = 1
  · rw [if_pos k1]; exact ⟨h.base, h.len, h.each, h.last, h.l, fun e => by simp at e, h.log⟩
  rw [if_neg k1]
  by_cases k2 : a.kind = 2
  · rw [if_pos k2]
    by_cases b1 : s.op = false
    · rw [if_pos b1]; exact h
    rw [if_neg b1]
    by_cases b2 : ¬ (0 ≤ a.block ∧ a.block ≤ (s.now.blocks.length : Int) - 1)
    · rw [if_pos b2]; exact h
    rw [if_neg b2]
    by_cases b3 : 48 < a.data.size ∨ 12 < (putW s.l ⟨a.block, a.data⟩).length
    · rw [if_pos b3]; exact h
    rw [if_neg b3]
    rw [hl] at b2
    exact ⟨h.base, h.len, h.each, h.last, putW_ok h.l ⟨by simp only; omega, by simp only; omega⟩ (by simp only; omega) (by omega), fun e => absurd e b1, h.log⟩
  rw [if_neg k2]
  by_cases k3 : a.kind = 3
  · rw [if_pos k3]; exact h
  rw [if_neg k3]
  by_cases k4 : a.kind = 4
  · rw [if_pos k4]
    by_cases b1 : s.op = false
    · rw [if_pos b1]; exact h
    rw [if_neg b1]
    by_cases b2 : (applied s.now s.l).2 ≠ 0
    · rw [if_pos b2]; exact ⟨h.base, h.len, h.each, h.last, wok_nil n, fun _ => rfl, h.log⟩
    rw [if_neg b2]
    by_cases b3 : 4000 < (bytesOf s.deals).length + (recL s.l).length
    · rw [if_pos b3]; exact ⟨h.base, h.len, h.each, h.last, wok_nil n, fun _ => rfl, h.log⟩
    rw [if_neg b3]
    refine ⟨h.base, h.len, h.each.append ⟨Classical.not_not.1 b2, trivial⟩, ?_, wok_nil n, fun _ => rfl, ?_⟩
    · simp only [List.length_append]; have := h.last; omega
    · have e : bytesOf (s.deals ++ [s.l]) = bytesOf s.deals ++ recL s.l := by simp [bytesOf]
      simp only
      rw [e, List.length_append]
      omega
  rw [if_neg k4]
  by_cases k5 : a.kind = 5
  · rw [if_pos k5]; exact ⟨h.base, h.len, h.each, h.last, wok_nil n, fun _ => rfl, h.log⟩
  rw [if_neg k5]
  by_cases k6 : a.kind = 6
  · rw [if_pos k6]; exact ⟨h.base, h.len, h.each, Nat.le_refl _, h.l, h.shut, h.log⟩
  rw [if_neg k6]
  by_cases k7 : a.kind = 7
  · rw [if_pos k7]
    by_cases b1 : a.keep < 0
    · rw [if_pos b1]; exact h
    rw [if_neg b1]
    refine ⟨h.base, h.len, h.each.take _, ?_, wok_nil n, fun _ => rfl, Nat.le_trans (bytes_take _ _) h.log⟩
    have := fits_le (s.deals.drop s.last) a.keep.toNat
    rw [List.length_drop] at this
    have := h.last
    simp only [List.length_take]
    omega
  rw [if_neg k7]
  by_cases k8 : a.kind = 8
  · rw [if_pos k8]; exact ⟨hv, hl, trivial, Nat.zero_le _, h.l, h.shut, by simp [bytesOf]⟩
  rw [if_neg k8]
  by_cases k9 : a.kind = 9
  · rw [if_pos k9]; exact h
  rw [if_neg k9]
  exact h
theorem runL_inv {n : Nat} : ∀ (l : List Act) {s : St}, Inv n s → Inv n (runL s l).1
  | [], _, h => h
  | a :: l, _, h => runL_inv l (step_inv h a)

/-! ### what holds of runs -/
def act (k : Int) : Act := ⟨k, 0, ⟨#[]⟩, 0⟩
def crash (k : Int) : Act := ⟨7, 0, ⟨#[]⟩, k⟩
def readA (b : Int) : Act := ⟨3, b, ⟨#[]⟩, 0⟩
def put (b : Int) (d : ByteArray) : Act := ⟨2, b, d, 0⟩
theorem step_begin (s : St) : step s (act 1) = ({ s with op := true }, if s.op then err 7 else ok) := rfl
theorem step_abort (s : St) : step s (act 5) = ({ s with op := false, l := [] }, if s.op then ok else err 7) := rfl
theorem step_flush (s : St) : step s (act 6) = ({ s with last := s.deals.length }, ok) := rfl
theorem step_mark (s : St) : step s (act 8) = ({ s with base := s.now, deals := [], last := 0 }, ok) := rfl
theorem step_stat (s : St) : step s (act 9) = (s, { ok with items := (s.now.items.length : Int), log := ((bytesOf s.deals).length : Int) }) := rfl
theorem step_crash (s : St) {k : Int} (hk : 0 ≤ k) : step s (crash k) = (⟨s.base, s.deals.take (s.last + fits (s.deals.drop s.last) k.toNat), s.last + fits (s.deals.drop s.last) k.toNat, false, []⟩, { ok with count := ((s.last + fits (s.deals.drop s.last) k.toNat : Nat) : Int) }) := by
  show (if k < 0 then _ else _) = _
  rw [if_neg (by omega)]
  rfl
theorem step_read (s : St) (b : Int) : step s (readA b) = (s, ⟨(readOf s.now b).2, match s.l.find? (fun x => x.block == b) with
      | some x => x.data
      | none => (readOf s.now b).1, 0, 0, 0⟩) := rfl
theorem step_odd (s : St) (a : Act) (h : a.kind < 1 ∨ 9 < a.kind) : step s a = (s, err 3) := by
  unfold step
  rw [if_neg (by omega), if_neg (by omega), if_neg (by omega), if_neg (by omega), if_neg (by omega), if_neg (by omega), if_neg (by omega), if_neg (by omega), if_neg (by omega)]

/-- TopFlushed -/
theorem crash_flushed {s : St} (h : s.last = s.deals.length) {k : Int} (hk : 0 ≤ k) : (step s (crash k)).1.now = s.now ∧ (step s (crash k)).2.count = (s.deals.length : Int) := by
  rw [step_crash s hk]
  have e : s.last + fits (s.deals.drop s.last) k.toNat = s.deals.length := by rw [h, List.drop_length]; rfl
  rw [e, List.take_length]
  exact ⟨rfl, rfl⟩
theorem flushed (s : St) {k : Int} (hk : 0 ≤ k) : (runL s [act 5, act 6, crash k]).1.now = (runL s [act 5, act 6]).1.now := by
  show (step (runL s [act 5, act 6]).1 (crash k)).1.now = _
  exact (crash_flushed rfl hk).1
/-- TopAll -/
theorem crash_all {n : Nat} {s : St} (h : Inv n s) {k : Int} (hk : 4000 ≤ k) : (step s (crash k)).1.now = s.now ∧ (step (step s (crash k)).1 (act 4)).2.code = 7 := by
  rw [step_crash s (by omega)]
  have e : s.last + fits (s.deals.drop s.last) k.toNat = s.deals.length := by
    rw [fits_all _ _ (Nat.le_trans (Nat.le_trans (bytes_drop _ _) h.log) (by omega)), List.length_drop]
    have := h.last
    omega
  rw [e, List.take_length]
  exact ⟨rfl, rfl⟩
/-- TopMarked -/
theorem marked (s : St) {k : Int} (hk : 0 ≤ k) : (runL s [act 8, act 9, crash k]).1.now = s.now ∧ ∃ x y z, (runL s [act 8, act 9, crash k]).2 = [x, y, z] ∧ y.log = 0 ∧ z.count = 0 := by
  refine ⟨?_, _, _, _, rfl, rfl, ?_⟩
  · show (step (step s (act 8)).1 (crash k)).1.now = _
    rw [(crash_flushed rfl hk).1]
    rfl
  · show (step (step s (act 8)).1 (crash k)).2.count = 0
    rw [(crash_flushed rfl hk).2]
    rfl
/-- what a Put, a Read, a Begin, an Abort leave -/
theorem step_soft (s : St) (a : Act) (h : a.kind = 1 ∨ a.kind = 2 ∨ a.kind = 3 ∨ a.kind = 5) : (step s a).1.base = s.base ∧ (step s a).1.deals = s.deals ∧ (step s a).1.last = s.last := by
  unfold step
  rcases h with h | h | h | h
  · rw [if_pos h]; exact ⟨rfl, rfl, rfl⟩
  · rw [if_neg (by omega), if_pos h]
    repeat' split
    all_goals exact ⟨rfl, rfl, rfl⟩
  · rw [if_neg (by omega), if_neg (by omega), if_pos h]; exact ⟨rfl, rfl, rfl⟩
  · rw [if_neg (by omega), if_neg (by omega), if_neg (by omega), if_neg (by omega), if_pos h]; exact ⟨rfl, rfl, rfl⟩
theorem runL_soft : ∀ (l : List Act) (s : St), (∀ a ∈ l, a.kind = 1 ∨ a.kind = 2 ∨ a.kind = 3 ∨ a.kind = 5) → (runL s l).1.base = s.base ∧ (runL s l).1.deals = s.deals ∧ (runL s l).1.last = s.last
  | [], _, _ => ⟨rfl, rfl, rfl⟩
  | a :: l, s, h => by
    obtain ⟨h1, h2, h3⟩ := step_soft s a (h a (by simp))
    obtain ⟨g1, g2, g3⟩ := runL_soft l (step s a).1 (fun b hb => h b (by simp [hb]))
    exact ⟨g1.trans h1, g2.trans h2, g3.trans h3⟩
theorem now_of {s t : St} (h1 : s.base = t.base) (h2 : s.deals = t.deals) : s.now = t.now := by unfold St.now; rw [h1, h2]
/-- TopAborted -/
theorem aborted (s : St) (l : List Act) (h : ∀ a ∈ l, a.kind = 2 ∨ a.kind = 3) : (runL s (act 1 :: (l ++ [act 5]))).1.now = s.now := by
  obtain ⟨h1, h2, _⟩ := runL_soft (act 1 :: (l ++ [act 5])) s (fun a ha => by
    rcases List.mem_cons.1 ha with rfl | ha
    · exact .inl rfl
    · rcases List.mem_append.1 ha with ha | ha
      · have := h a ha; omega
      · rw [List.mem_singleton.1 ha]; exact .inr (.inr (.inr rfl)))
  exact now_of h1 h2
/-- TopTwice -/
theorem twice (s : St) {k : Int} (hk : 0 ≤ k) (h : s.last ≤ s.deals.length) : (step (step s (crash k)).1 (crash 0)).1.now = (step s (crash k)).1.now ∧ (step (step s (crash k)).1 (crash 0)).2.count = (step s (crash k)).2.count := by
  have hl : (step s (crash k)).1.last = (step s (crash k)).1.deals.length := by
    rw [step_crash s hk]
    have := fits_le (s.deals.drop s.last) k.toNat
    rw [List.length_drop] at this
    simp only [List.length_take]
    omega
  refine ⟨(crash_flushed hl (by omega)).1, ?_⟩
  rw [(crash_flushed hl (by omega)).2, ← hl, step_crash s hk]
theorem step_put (s : St) (b : Int) (d : ByteArray) : step s (put b d) =
    if s.op = false then (s, err 7)
    else if ¬ (0 ≤ b ∧ b ≤ (s.now.blocks.length : Int) - 1) then (s, err 6)
    else if 48 < d.size ∨ 12 < (putW s.l ⟨b, d⟩).length then (s, err 1)
    else ({ s with l := putW s.l ⟨b, d⟩ }, ok) := rfl
theorem step_commit (s : St) : step s (act 4) =
    if s.op = false then (s, err 7)
    else if (applied s.now s.l).2 ≠ 0 then ({ s with op := false, l := [] }, err (applied s.now s.l).2)
    else if 4000 < (bytesOf s.deals).length + (recL s.l).length then ({ s with op := false, l := [] }, err 1)
    else ({ s with op := false, l := [], deals := s.deals ++ [s.l] }, ok) := rfl
/-- TopSees -/
theorem sees {n : Nat} (hn : n ≤ 16) {s : St} (h : Inv n s) (ho : s.op = false) {b : Nat} (hb : b < n) {d : ByteArray} (hd : d.size ≤ 48) :
    ∃ x0 x1 x2 x3 x4 x5, (runL s [act 1, readA b, put b d, readA b, act 4, readA b]).2 = [x0, x1, x2, x3, x4, x5] ∧
      ((x4.code = 1 ∧ x5.data = rd s.now b) ∨ (x4.code = 0 ∧ x1.data = rd s.now b ∧ x3.data = d ∧ x5.data = d)) := by
  obtain ⟨hv, hl⟩ := h.now
  have hs := h.shut ho
  have hr := readOf_ok hv (b := b) (by omega)
  have hw : WOk [⟨(b : Int), d⟩] s.now.blocks.length := ⟨by simp, fun x hx => by rw [List.mem_singleton.1 hx]; exact ⟨by simp only; omega, by simp only; omega, hd⟩, by simp⟩
  obtain ⟨a1, a2, a3, a4⟩ := apply_ok hv (by omega) hw
  have a5 := a4 b (by omega)
  have hu : upd [⟨(b : Int), d⟩] b (rd s.now b) = d := by unfold upd; simp
  rw [hu] at a5
  have e1 : step s (act 1) = (⟨s.base, s.deals, s.last, true, []⟩, ok) := by rw [step_begin, ho, hs]; rfl
  have e2 : step ⟨s.base, s.deals, s.last, true, []⟩ (readA b) = (⟨s.base, s.deals, s.last, true, []⟩, ⟨0, rd s.now b, 0, 0, 0⟩) := by
    rw [step_read]
    change (_, (⟨(readOf s.now b).2, (readOf s.now b).1, 0, 0, 0⟩ : Ans)) = _
    rw [hr]
  have e3 : step ⟨s.base, s.deals, s.last, true, []⟩ (put b d) = (⟨s.base, s.deals, s.last, true, [⟨b, d⟩]⟩, ok) := by
    rw [step_put, if_neg (by simp)]
    change (if ¬ (0 ≤ (b : Int) ∧ (b : Int) ≤ (s.now.blocks.length : Int) - 1) then _ else _) = _
    rw [if_neg (by omega), if_neg (by simp [putW]; omega)]
    rfl
  have e4 : step ⟨s.base, s.deals, s.last, true, [⟨b, d⟩]⟩ (readA b) = (⟨s.base, s.deals, s.last, true, [⟨b, d⟩]⟩, ⟨0, d, 0, 0, 0⟩) := by
    rw [step_read]
    change (_, (⟨(readOf s.now b).2, match [(⟨b, d⟩ : Wr)].find? (fun x => x.block == (b : Int)) with | some x => x.data | none => (readOf s.now b).1, 0, 0, 0⟩ : Ans)) = _
    rw [hr]
    simp
  by_cases hg : 4000 < (bytesOf s.deals).length + (recL [⟨b, d⟩]).length
  · have e5 : step ⟨s.base, s.deals, s.last, true, [⟨b, d⟩]⟩ (act 4) = (⟨s.base, s.deals, s.last, false, []⟩, err 1) := by
      rw [step_commit, if_neg (by simp)]
      change (if (applied s.now [⟨b, d⟩]).2 ≠ 0 then _ else _) = _
      rw [if_neg (by rw [a1]; simp), if_pos hg]
    have e6 : step ⟨s.base, s.deals, s.last, false, []⟩ (readA b) = (⟨s.base, s.deals, s.last, false, []⟩, ⟨0, rd s.now b, 0, 0, 0⟩) := by
      rw [step_read]
      change (_, (⟨(readOf s.now b).2, (readOf s.now b).1, 0, 0, 0⟩ : Ans)) = _
      rw [hr]
    simp only [runL, e1, e2, e3, e4, e5, e6]
    exact ⟨_, _, _, _, _, _, rfl, .inl ⟨rfl, rfl⟩⟩
  · have e5 : step ⟨s.base, s.deals, s.last, true, [⟨b, d⟩]⟩ (act 4) = (⟨s.base, s.deals ++ [[⟨b, d⟩]], s.last, false, []⟩, ok) := by
      rw [step_commit, if_neg (by simp)]
      change (if (applied s.now [⟨b, d⟩]).2 ≠ 0 then _ else _) = _
      rw [if_neg (by rw [a1]; simp), if_neg hg]
    have hn' : St.now ⟨s.base, s.deals ++ [[⟨(b : Int), d⟩]], s.last, false, []⟩ = (applied s.now [⟨(b : Int), d⟩]).1 := after_snoc _ _ _
    have e6 : step ⟨s.base, s.deals ++ [[⟨b, d⟩]], s.last, false, []⟩ (readA b) = (⟨s.base, s.deals ++ [[⟨b, d⟩]], s.last, false, []⟩, ⟨0, d, 0, 0, 0⟩) := by
      rw [step_read]
      change (_, (⟨(readOf (St.now _) b).2, (readOf (St.now _) b).1, 0, 0, 0⟩ : Ans)) = _
      rw [hn', readOf_ok a2 (by omega), a5]
    simp only [runL, e1, e2, e3, e4, e5, e6]
    exact ⟨_, _, _, _, _, _, rfl, .inr ⟨rfl, rfl, rfl, rfl⟩⟩

/-! ### TopPrefix: what the volume was behind each commit -/
/-- what the blocks read behind each of the transactions, from the first one on -/
def hist (V : Vol) (D : List (List Wr)) : List (List ByteArray) := (List.range (D.length + 1)).map fun j => rds (after V (D.take j))
theorem hist_len (V : Vol) (D : List (List Wr)) : (hist V D).length = D.length + 1 := by simp [hist]
theorem hist_at {V : Vol} {D : List (List Wr)} {j : Nat} (h : j ≤ D.length) : (hist V D)[j]? = some (rds (after V (D.take j))) := by
  unfold hist
  rw [List.getElem?_map, List.getElem?_range (by omega)]
  rfl
theorem hist_nil (V : Vol) : hist V [] = [rds V] := rfl
theorem hist_snoc (V : Vol) (D : List (List Wr)) (W : List Wr) : hist V (D ++ [W]) = hist V D ++ [rds (after V (D ++ [W]))] := by
  unfold hist
  rw [List.length_append, List.length_singleton, List.range_succ, List.map_append]
  congr 1
  · apply List.map_congr_left
    intro j hj
    rw [List.mem_range] at hj
    rw [List.take_append_of_le_length (by omega)]
  · simp only [List.map_cons, List.map_nil]
    rw [List.take_of_length_le (by simp)]
/-- one action but a Crash or a Mark -/
theorem step_quiet (s : St) (a : Act) (h7 : a.kind ≠ 7) (h8 : a.kind ≠ 8) : (step s a).1.base = s.base ∧
    ((a.kind = 4 ∧ (step s a).2.code = 0 ∧ (step s a).1.deals = s.deals ++ [s.l] ∧ (step s a).1.last = s.last) ∨
     (a.kind = 6 ∧ (step s a).2.code = 0 ∧ (step s a).1.deals = s.deals ∧ (step s a).1.last = s.deals.length) ∨
     ((a.kind ≠ 4 ∨ (step s a).2.code ≠ 0) ∧ a.kind ≠ 6 ∧ (step s a).1.deals = s.deals ∧ (step s a).1.last = s.last)) := by
  by_cases hs : a.kind = 1 ∨ a.kind = 2 ∨ a.kind = 3 ∨ a.kind = 5
  · obtain ⟨h1, h2, h3⟩ := step_soft s a hs
    exact ⟨h1, .inr (.inr ⟨.inl (by omega), by omega, h2, h3⟩)⟩
  · by_cases h4 : a.kind = 4
    · unfold step
      rw [if_neg (by omega), if_neg (by omega), if_neg (by omega), if_pos h4]
      by_cases b1 : s.op = false
      · rw [if_pos b1]; exact ⟨rfl, .inr (.inr ⟨.inr (by simp [err]), by omega, rfl, rfl⟩)⟩
      rw [if_neg b1]
      by_cases b2 : (applied s.now s.l).2 ≠ 0
      · rw [if_pos b2]; exact ⟨rfl, .inr (.inr ⟨.inr (by simpa [err] using b2), by omega, rfl, rfl⟩)⟩
      rw [if_neg b2]
      by_cases b3 : 4000 < (bytesOf s.deals).length + (recL s.l).length
      · rw [if_pos b3]; exact ⟨rfl, .inr (.inr ⟨.inr (by simp [err]), by omega, rfl, rfl⟩)⟩
      rw [if_neg b3]
      exact ⟨rfl, .inl ⟨h4, rfl, rfl, rfl⟩⟩
    · by_cases h6 : a.kind = 6
      · unfold step
        rw [if_neg (by omega), if_neg (by omega), if_neg (by omega), if_neg (by omega), if_neg (by omega), if_pos h6]
        exact ⟨rfl, .inr (.inl ⟨h6, rfl, rfl, rfl⟩)⟩
      · by_cases h9 : a.kind = 9
        · unfold step
          rw [if_neg (by omega), if_neg (by omega), if_neg (by omega), if_neg (by omega), if_neg (by omega), if_neg (by omega), if_neg (by omega), if_neg (by omega), if_pos h9]
          exact ⟨rfl, .inr (.inr ⟨.inl h4, h6, rfl, rfl⟩)⟩
        · rw [step_odd s a (by omega)]
          exact ⟨rfl, .inr (.inr ⟨.inl h4, h6, rfl, rfl⟩)⟩
/-- TopPrefix: the crash -/
theorem crash_prefix {s : St} (h : s.last ≤ s.deals.length) {k : Int} (hk : 0 ≤ k) :
    ∃ m : Nat, (step s (crash k)).2.count = (m : Int) ∧ s.last ≤ m ∧ m < (hist s.base s.deals).length ∧ (hist s.base s.deals)[m]? = some (rds (step s (crash k)).1.now) := by
  rw [step_crash s hk]
  have := fits_le (s.deals.drop s.last) k.toNat
  rw [List.length_drop] at this
  refine ⟨_, rfl, Nat.le_add_right _ _, by rw [hist_len]; omega, ?_⟩
  rw [hist_at (by omega)]
  rfl
/-- EnginesGood: two actions that fail -/
theorem failing {n : Nat} {s : St} (h : Inv n s) {k : Int} (hk : 9 < k) : (step s (act k)) = (s, err 3) ∧ (step s (readA n)).1 = s ∧ (step s (readA n)).2.code = 6 := by
  obtain ⟨hv, hl⟩ := h.now
  refine ⟨step_odd _ _ (.inr hk), rfl, ?_⟩
  rw [step_read]
  show (readOf s.now n).2 = 6
  rw [readOf_none hv (by omega)]
end EM
end Go.Proofs.Ythjaanhkmfiajac

/- How many records a crash leaves: what is durable, and what lies whole in the rest's first bytes. No program's run. -/
namespace Go.Proofs.Ythjaanhkmfiajac
open LM

theorem fits_skip : ∀ (D : List (List Wr)) (j k : Nat), j ≤ D.length → fits D ((bytesOf (D.take j)).length + k) = j + fits (D.drop j) k
  | D, 0, k, _ => by simp [bytesOf]
  | [], j + 1, k, h => by simp at h
  | W :: D, j + 1, k, h => by
    rw [List.take_succ_cons, bytes_cons, List.drop_succ_cons, fits, if_pos (by omega)]
    rw [show (recL W).length + (bytesOf (D.take j)).length + k - (recL W).length = (bytesOf (D.take j)).length + k by omega, fits_skip D j k (by simpa using h)]
    omega
theorem fits_min (D : List (List Wr)) (k m : Nat) (hm : m = (bytesOf D).length) : fits D (min k m) = fits D k := by
  by_cases h : k ≤ m
  · rw [Nat.min_eq_left h]
  · rw [Nat.min_eq_right (by omega), fits_all _ _ (by omega), fits_all _ _ (by omega)]
theorem bytes_split (D : List (List Wr)) (j : Nat) : (bytesOf (D.take j)).length + (bytesOf (D.drop j)).length = (bytesOf D).length := by
  have := congrArg (fun L => (bytesOf L).length) (List.take_append_drop j D)
  unfold bytesOf at this ⊢
  simp only [List.flatMap_append, List.length_append] at this
  exact this
/-- what is left of a log of len bytes, du of them durable, behind a crash that keeps k more -/
theorem crash_fits {D : List (List Wr)} {j k du len : Nat} (hj : j ≤ D.length) (hd : du = (bytesOf (D.take j)).length) (hl : len = (bytesOf D).length) : fits D (du + min k (len - du)) = j + fits (D.drop j) k := by
  have := bytes_split D j
  rw [hd, fits_skip D j _ hj, fits_min _ _ _ (by omega)]
theorem crash_scan {n : Nat} {s : EM.St} (hi : EM.Inv n s) {k : Nat} :
    scan n ((bytesOf s.deals).take ((bytesOf (s.deals.take s.last)).length + min k ((bytesOf s.deals).length - (bytesOf (s.deals.take s.last)).length))) =
      (s.deals.take (s.last + fits (s.deals.drop s.last) k), (bytesOf (s.deals.take (s.last + fits (s.deals.drop s.last) k))).length) := by
  have h1 := bytes_take s.deals s.last
  rw [scan_fits hi.good (by omega), crash_fits hi.last rfl rfl]
theorem bytes_head (D : List (List Wr)) (m : Nat) : (bytesOf D).take (bytesOf (D.take m)).length = bytesOf (D.take m) := by
  have h : bytesOf D = bytesOf (D.take m) ++ bytesOf (D.drop m) := by
    unfold bytesOf
    rw [← List.flatMap_append, List.take_append_drop]
  generalize bytesOf (D.take m) = A at h ⊢
  rw [h, List.take_left]
end Go.Proofs.Ythjaanhkmfiajac

/- The place of a block among writes in the order of blocks: what putting and finding are there. No condition but that the writes are in order. -/
namespace Go.Proofs.Ythjaanhkmfiajac
open EM

/-- all ahead of i is smaller than b, all from i on is not -/
structure Place (l : List Wr) (b : Int) (i : Nat) : Prop where
  le : i ≤ l.length
  lo : ∀ (p : Nat) (x : Wr), p < i → l[p]? = some x → x.block < b
  hi : ∀ (p : Nat) (x : Wr), i ≤ p → l[p]? = some x → b ≤ x.block
/-- is the write at i one to block b? -/
def foundB (l : List Wr) (b : Int) (i : Nat) : Bool := match l[i]? with
  | some x => decide (x.block = b)
  | none => false
theorem foundB_some {l : List Wr} {b : Int} {i : Nat} {x : Wr} (h : l[i]? = some x) : foundB l b i = decide (x.block = b) := by unfold foundB; rw [h]
theorem foundB_none {l : List Wr} {b : Int} {i : Nat} (h : ¬ i < l.length) : foundB l b i = false := by
  unfold foundB
  rw [List.getElem?_eq_none (by omega)]
theorem Place.tail {y : Wr} {l : List Wr} {b : Int} {i : Nat} (h : Place (y :: l) b (i + 1)) : y.block < b ∧ Place l b i :=
  ⟨h.lo 0 y (by omega) rfl, by have := h.le; simp at this; omega, fun p x hp hx => h.lo (p + 1) x (by omega) (by simpa using hx), fun p x hp hx => h.hi (p + 1) x (by omega) (by simpa using hx)⟩
theorem putW_found : ∀ {l : List Wr} {b : Int} {i : Nat} {d : ByteArray}, Place l b i → foundB l b i = true → putW l ⟨b, d⟩ = l.set i ⟨b, d⟩
  | [], b, i, d, _, hf => by simp [foundB] at hf
  | y :: l, b, 0, d, h, hf => by
    have : y.block = b := by simpa [foundB] using hf
    unfold putW
    rw [if_neg (by simp only; omega), if_pos (by simpa using this)]
    rfl
  | y :: l, b, i + 1, d, h, hf => by
    obtain ⟨h1, h2⟩ := h.tail
    unfold putW
    rw [if_pos (by simpa using h1), putW_found h2 (by simpa [foundB] using hf)]
    rfl
theorem putW_new : ∀ {l : List Wr} {b : Int} {i : Nat} {d : ByteArray}, Place l b i → foundB l b i = false → putW l ⟨b, d⟩ = l.take i ++ [⟨b, d⟩] ++ l.drop i
  | [], b, i, d, _, _ => by simp [putW]
  | y :: l, b, 0, d, h, hf => by
    have h1 : ¬ y.block = b := by simpa [foundB] using hf
    have h2 := h.hi 0 y (Nat.le_refl _) rfl
    unfold putW
    rw [if_neg (by simp only; omega), if_neg (by simpa using h1)]
    rfl
  | y :: l, b, i + 1, d, h, hf => by
    obtain ⟨h1, h2⟩ := h.tail
    unfold putW
    rw [if_pos (by simpa using h1), putW_new h2 (by simpa [foundB] using hf)]
    rfl
theorem putW_len {l : List Wr} {b : Int} {i : Nat} {d : ByteArray} (h : Place l b i) : (putW l ⟨b, d⟩).length = if foundB l b i then l.length else l.length + 1 := by
  cases hf : foundB l b i with
  | true => rw [putW_found h hf]; simp
  | false =>
    rw [putW_new h hf]
    have := h.le
    simp
    omega
theorem find_found : ∀ {l : List Wr} {b : Int} {i : Nat}, Place l b i → foundB l b i = true → l.find? (fun x => x.block == b) = l[i]?
  | [], b, i, _, hf => by simp [foundB] at hf
  | y :: l, b, 0, h, hf => by
    have : y.block = b := by simpa [foundB] using hf
    rw [List.find?_cons_of_pos (by simpa using this)]
    rfl
  | y :: l, b, i + 1, h, hf => by
    obtain ⟨h1, h2⟩ := h.tail
    rw [List.find?_cons_of_neg (by simp; omega), find_found h2 (by simpa [foundB] using hf)]
    rfl
theorem find_new : ∀ {l : List Wr} {b : Int} {i : Nat}, l.Pairwise (fun x y => x.block < y.block) → Place l b i → foundB l b i = false → l.find? (fun x => x.block == b) = none
  | [], b, i, _, _, _ => rfl
  | y :: l, b, 0, hp, h, hf => by
    have h1 : ¬ y.block = b := by simpa [foundB] using hf
    have h2 := h.hi 0 y (Nat.le_refl _) rfl
    obtain ⟨h3, _⟩ := List.pairwise_cons.1 hp
    rw [List.find?_eq_none]
    intro x hx
    rcases List.mem_cons.1 hx with rfl | hx
    · simpa using h1
    · have := h3 x hx
      simp
      omega
  | y :: l, b, i + 1, hp, h, hf => by
    obtain ⟨h1, h2⟩ := h.tail
    rw [List.find?_cons_of_neg (by simp; omega), find_new (List.pairwise_cons.1 hp).2 h2 (by simpa [foundB] using hf)]
/-- the steps of a binary search -/
theorem Place.done {l : List Wr} {b : Int} {i : Nat} (hi : i ≤ l.length) (h1 : ∀ (p : Nat) (x : Wr), p < i → l[p]? = some x → x.block < b) (h2 : ∀ (p : Nat) (x : Wr), i ≤ p → l[p]? = some x → b ≤ x.block) : Place l b i := ⟨hi, h1, h2⟩
theorem lo_step {l : List Wr} {b : Int} {h : Nat} {x : Wr} (hp : l.Pairwise (fun x y => x.block < y.block)) (hx : l[h]? = some x) (hlt : x.block < b) : ∀ (p : Nat) (y : Wr), p < h + 1 → l[p]? = some y → y.block < b := by
  intro p y hph hy
  by_cases he : p = h
  · subst he; rw [hx] at hy; cases hy; exact hlt
  · obtain ⟨h1, e1⟩ := List.getElem?_eq_some_iff.1 hx
    obtain ⟨h2, e2⟩ := List.getElem?_eq_some_iff.1 hy
    have := (List.pairwise_iff_getElem.1 hp) p h h2 h1 (by omega)
    rw [e1, e2] at this
    omega
theorem hi_step {l : List Wr} {b : Int} {h : Nat} {x : Wr} (hp : l.Pairwise (fun x y => x.block < y.block)) (hx : l[h]? = some x) (hge : b ≤ x.block) : ∀ (p : Nat) (y : Wr), h ≤ p → l[p]? = some y → b ≤ y.block := by
  intro p y hph hy
  by_cases he : p = h
  · subst he; rw [hx] at hy; cases hy; exact hge
  · obtain ⟨h1, e1⟩ := List.getElem?_eq_some_iff.1 hx
    obtain ⟨h2, e2⟩ := List.getElem?_eq_some_iff.1 hy
    have := (List.pairwise_iff_getElem.1 hp) h p h1 h2 (by omega)
    rw [e1, e2] at this
    omega
end Go.Proofs.Ythjaanhkmfiajac
