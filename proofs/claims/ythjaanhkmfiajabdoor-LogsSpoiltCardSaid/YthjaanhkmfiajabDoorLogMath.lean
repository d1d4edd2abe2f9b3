/- Records of transactions, as lists of bytes: what is recorded is scanned again, a cut or a spoilt record is none. Conditions: the writes are good for at most 32 blocks. No program's run. -/
import Derived.Test.YthjaanhkmfiajabDoorPackMath
import Derived.Test.YthjaanhkmfiajabDoorVolApply
namespace Go.Proofs.YthjaanhkmfiajabDoor
open PM
namespace LM

/-- the checksum's two numbers -/
def sums : Nat × Nat → List UInt8 → Nat × Nat
  | p, [] => p
  | p, b :: t => sums ((p.1 + b.toNat) % 65521, ((p.1 + b.toNat) % 65521 + p.2) % 65521) t
def tot : List UInt8 → Nat
  | [] => 0
  | b :: t => b.toNat + tot t
theorem sums_fst : ∀ (L : List UInt8) (p : Nat × Nat), p.1 < 65521 → (sums p L).1 = (p.1 + tot L) % 65521
  | [], p, h => by simp [sums, tot, Nat.mod_eq_of_lt h]
  | b :: t, p, h => by
    unfold sums tot
    rw [sums_fst t _ (Nat.mod_lt _ (by omega))]
    simp only
    omega
theorem sums_lt : ∀ (L : List UInt8) (p : Nat × Nat), p.1 < 65521 → p.2 < 65521 → (sums p L).1 < 65521 ∧ (sums p L).2 < 65521
  | [], p, h, h2 => ⟨h, h2⟩
  | b :: t, p, _, _ => by
    unfold sums
    exact sums_lt t _ (Nat.mod_lt _ (by omega)) (Nat.mod_lt _ (by omega))
theorem tot_append : ∀ (A C : List UInt8), tot (A ++ C) = tot A + tot C
  | [], C => by simp [tot]
  | b :: A, C => by simp [tot, tot_append A C, Nat.add_assoc]
def sealL (L : List UInt8) : List UInt8 :=
  [UInt8.ofNat ((sums (1, 0) L).2 / 256), UInt8.ofNat ((sums (1, 0) L).2 % 256), UInt8.ofNat ((sums (1, 0) L).1 / 256), UInt8.ofNat ((sums (1, 0) L).1 % 256)]
theorem sealL_length (L : List UInt8) : (sealL L).length = 4 := rfl
theorem ofNat_inj {a b : Nat} (ha : a < 256) (hb : b < 256) (h : UInt8.ofNat a = UInt8.ofNat b) : a = b := by
  have := congrArg UInt8.toNat h
  rw [UInt8.toNat_ofNat', UInt8.toNat_ofNat'] at this
  omega
theorem toNat_of {a : Nat} (ha : a < 256) : (UInt8.ofNat a).toNat = a := by
  rw [UInt8.toNat_ofNat']
  omega
/-- one byte turned: another checksum -/
theorem sealL_turned {A C : List UInt8} {b b' : UInt8} (h : sealL (A ++ b :: C) = sealL (A ++ b' :: C)) : b = b' := by
  unfold sealL at h
  simp only [List.cons.injEq, and_true] at h
  obtain ⟨_, _, h1, h2⟩ := h
  have l1 := (sums_lt (A ++ b :: C) (1, 0) (by simp) (by simp)).1
  have l2 := (sums_lt (A ++ b' :: C) (1, 0) (by simp) (by simp)).1
  have e1 := ofNat_inj (by omega) (by omega) h1
  have e2 := ofNat_inj (by omega) (by omega) h2
  have e : (sums (1, 0) (A ++ b :: C)).1 = (sums (1, 0) (A ++ b' :: C)).1 := by omega
  rw [sums_fst _ _ (by simp), sums_fst _ _ (by simp), tot_append, tot_append] at e
  simp only [tot] at e
  have := b.toNat_lt
  have := b'.toNat_lt
  exact UInt8.toNat_inj.1 (by omega)

/-- P1.2 on lists -/
def unp (s : List UInt8) : Option (List UInt8) :=
  match dec [] s with
  | .ok d => if enc d = s then some d else none
  | .err _ => none
theorem unp_enc {d : List UInt8} (h : d.length ≤ 48) : unp (enc d) = some d := by
  unfold unp
  rw [dec_enc _ d [] rfl (by simpa using h)]
  simp

def wbytes (x : Wr) : List UInt8 := UInt8.ofNat x.block.toNat :: UInt8.ofNat (enc x.data.data.toList).length :: enc x.data.data.toList
def body (W : List Wr) : List UInt8 := UInt8.ofNat W.length :: W.flatMap wbytes
def front (b : List UInt8) : List UInt8 := 114 :: UInt8.ofNat (b.length / 256) :: UInt8.ofNat (b.length % 256) :: b
/-- P4.1 -/
def recL (W : List Wr) : List UInt8 := front (body W) ++ sealL (front (body W))

def parse : Nat → List UInt8 → Option (List Wr)
  | 0, s => if s = [] then some [] else none
  | k + 1, b :: n :: rest =>
    if rest.length < n.toNat then none
    else match unp (rest.take n.toNat) with
      | none => none
      | some d => (parse k (rest.drop n.toNat)).map fun W => ⟨(b.toNat : Int), ⟨d.toArray⟩⟩ :: W
  | _ + 1, _ => none
/-- P4.2: the record in front -/
def recAt (n : Int) (s : List UInt8) : Option (List Wr × Nat) :=
  match s with
  | c :: h :: l :: rest =>
    if c ≠ 114 ∨ rest.length < 256 * h.toNat + l.toNat + 4 then none
    else if (rest.drop (256 * h.toNat + l.toNat)).take 4 ≠ sealL (c :: h :: l :: rest.take (256 * h.toNat + l.toNat)) then none
    else match rest.take (256 * h.toNat + l.toNat) with
      | [] => none
      | k :: b => match parse k.toNat b with
        | none => none
        | some W => if wFault W n = 0 then some (W, 256 * h.toNat + l.toNat + 7) else none
  | _ => none
theorem recAt_le {n : Int} {s : List UInt8} {W : List Wr} {u : Nat} (h : recAt n s = some (W, u)) : 7 ≤ u ∧ u ≤ s.length := by
  unfold recAt at h
  split at h
  · rename_i c h' l rest
    by_cases h1 : c ≠ 114 ∨ rest.length < 256 * h'.toNat + l.toNat + 4
    · rw [if_pos h1] at h; cases h
    · rw [if_neg h1] at h
      by_cases h2 : (rest.drop (256 * h'.toNat + l.toNat)).take 4 ≠ sealL (c :: h' :: l :: rest.take (256 * h'.toNat + l.toNat))
      · rw [if_pos h2] at h; cases h
      · rw [if_neg h2] at h
        split at h
        · cases h
        · split at h
          · cases h
          · split at h
            · cases h
              simp only [List.length_cons]
              omega
            · cases h
  · cases h
def scan (n : Int) (s : List UInt8) : List (List Wr) × Nat :=
  match _h : recAt n s with
  | none => ([], 0)
  | some (W, u) => (W :: (scan n (s.drop u)).1, u + (scan n (s.drop u)).2)
termination_by s.length
decreasing_by all_goals (have := recAt_le _h; rw [List.length_drop]; omega)
theorem scan_none {n : Int} {s : List UInt8} (h : recAt n s = none) : scan n s = ([], 0) := by
  rw [scan]
  split
  · rfl
  · rename_i h'; rw [h] at h'; cases h'
theorem scan_some {n : Int} {s : List UInt8} {W : List Wr} {u : Nat} (h : recAt n s = some (W, u)) : scan n s = (W :: (scan n (s.drop u)).1, u + (scan n (s.drop u)).2) := by
  rw [scan]
  split
  · rename_i h'; rw [h] at h'; cases h'
  · rename_i h'; rw [h] at h'; cases h'; rfl

/-! ### what was recorded -/
theorem blk_round {x : Wr} (h0 : 0 ≤ x.block) (h1 : x.block < 256) : ((UInt8.ofNat x.block.toNat).toNat : Int) = x.block := by
  rw [toNat_of (by omega)]
  omega
theorem enc_small {x : Wr} (h : x.data.size ≤ 48) : (enc x.data.data.toList).length ≤ 49 := by
  have := (enc_len1 _ x.data.data.toList rfl).1
  have h' : x.data.data.toList.length = x.data.size := Array.length_toList
  omega
def Small (x : Wr) : Prop := 0 ≤ x.block ∧ x.block < 256 ∧ x.data.size ≤ 48
theorem parse_body : ∀ (W : List Wr), (∀ x ∈ W, Small x) → parse W.length (W.flatMap wbytes) = some W
  | [], _ => by simp [parse]
  | x :: W, h => by
    obtain ⟨h0, h1, h2⟩ := h x (by simp)
    have ht := enc_small h2
    have hn := toNat_of (a := (enc x.data.data.toList).length) (by omega)
    have hd : x.data.data.toList.length ≤ 48 := by rw [Array.length_toList]; exact h2
    rw [List.flatMap_cons]
    unfold wbytes
    rw [List.length_cons, List.cons_append, List.cons_append, parse, hn, if_neg (by simp)]
    rw [List.take_left' rfl, List.drop_left' rfl, unp_enc hd]
    have ih := parse_body W (fun y hy => h y (by simp [hy]))
    unfold wbytes at ih
    simp only [ih, Option.map_some]
    rw [blk_round h0 h1]
theorem body_len {W : List Wr} (h : ∀ x ∈ W, Small x) : (body W).length ≤ 1 + 51 * W.length := by
  unfold body
  rw [List.length_cons]
  have : ∀ W : List Wr, (∀ x ∈ W, Small x) → (W.flatMap wbytes).length ≤ 51 * W.length := by
    intro W
    induction W with
    | nil => simp
    | cons x W ih =>
      intro h
      have h1 := enc_small (h x (by simp)).2.2
      have h2 := ih (fun y hy => h y (by simp [hy]))
      rw [List.flatMap_cons, List.length_append]
      unfold wbytes at h2 ⊢
      simp only [List.length_cons]
      omega
  have := this W h
  omega
/-- a good transaction -/
structure Good (n : Nat) (W : List Wr) : Prop where
  ok : wFault W n = 0
  n32 : n ≤ 32
theorem Good.small {n : Nat} {W : List Wr} (h : Good n W) : ∀ x ∈ W, Small x := fun x hx => by
  have h1 := (wFault_ok h.ok).all x hx
  have h2 := h.n32
  exact ⟨h1.1, by omega, h1.2.2⟩
theorem Good.body {n : Nat} {W : List Wr} (h : Good n W) : (body W).length ≤ 613 := by
  have h1 := body_len h.small
  have h2 := (wFault_ok h.ok).len
  omega
theorem rec_len (W : List Wr) : (recL W).length = (body W).length + 7 := by
  unfold recL front
  simp [sealL_length]
theorem body_pos (W : List Wr) : 1 ≤ (body W).length := by unfold body; simp
theorem len_round {m : Nat} (h : m < 65536) : 256 * (UInt8.ofNat (m / 256)).toNat + (UInt8.ofNat (m % 256)).toNat = m := by
  rw [toNat_of (by omega), toNat_of (by omega)]
  omega
/-- the front of a record: told apart -/
theorem recAt_cons (n : Int) (c : UInt8) (b : List UInt8) (hb : b.length < 65536) (rest : List UInt8) : recAt n (c :: UInt8.ofNat (b.length / 256) :: UInt8.ofNat (b.length % 256) :: (b ++ rest)) =
    if c ≠ 114 ∨ rest.length < 4 then none else if rest.take 4 ≠ sealL (c :: UInt8.ofNat (b.length / 256) :: UInt8.ofNat (b.length % 256) :: b) then none else match b with
      | [] => none
      | k :: b' => match parse k.toNat b' with
        | none => none
        | some W => if wFault W n = 0 then some (W, b.length + 7) else none := by
  rw [recAt]
  rw [len_round hb, List.drop_left' rfl, List.take_left' rfl, List.length_append]
  by_cases h1 : c ≠ 114 ∨ rest.length < 4
  · rw [if_pos h1, if_pos (h1.imp_right fun h => by omega)]
  · rw [if_neg h1, if_neg (fun h => h1 (h.imp_right fun h => by omega))]
theorem recAt_rec {n : Nat} {W : List Wr} (h : Good n W) (s : List UInt8) : recAt n (recL W ++ s) = some (W, (recL W).length) := by
  have hb := h.body
  have e : recL W ++ s = 114 :: UInt8.ofNat ((body W).length / 256) :: UInt8.ofNat ((body W).length % 256) :: (body W ++ (sealL (front (body W)) ++ s)) := by
    unfold recL front
    simp
  rw [e, recAt_cons _ _ _ (by omega), if_neg (by simp [sealL_length]), List.take_left' (sealL_length _)]
  rw [if_neg (by unfold front; simp)]
  have hl := (wFault_ok h.ok).len
  rw [rec_len]
  unfold body
  simp only
  rw [toNat_of (by omega), parse_body W h.small]
  simp only
  rw [if_pos h.ok]
theorem scan_rec {n : Nat} {W : List Wr} (h : Good n W) (s : List UInt8) : scan n (recL W ++ s) = (W :: (scan n s).1, (recL W).length + (scan n s).2) := by
  rw [scan_some (recAt_rec h s), List.drop_left' rfl]
theorem scan_recs {n : Nat} : ∀ (L : List (List Wr)), (∀ W ∈ L, Good n W) → ∀ s : List UInt8, scan n (L.flatMap recL ++ s) = (L ++ (scan n s).1, (L.flatMap recL).length + (scan n s).2)
  | [], _, s => by simp
  | W :: L, h, s => by
    rw [List.flatMap_cons, List.append_assoc, scan_rec (h W (by simp)), scan_recs L (fun V hV => h V (by simp [hV])) s, List.length_append]
    simp [Nat.add_assoc]
theorem recAt_nil (n : Int) : recAt n [] = none := rfl
theorem scan_all {n : Nat} {L : List (List Wr)} (h : ∀ W ∈ L, Good n W) : scan n (L.flatMap recL) = (L, (L.flatMap recL).length) := by
  have := scan_recs L h []
  rw [scan_none (recAt_nil _)] at this
  simpa using this
/-- a cut record is none -/
theorem recAt_cut {n : Nat} {W : List Wr} (h : Good n W) {j : Nat} (hj : j < (recL W).length) : recAt n ((recL W).take j) = none := by
  have hb := h.body
  rw [rec_len] at hj
  match j, hj with
  | 0, _ => rfl
  | 1, _ => rfl
  | 2, _ => rfl
  | j + 3, hj =>
    have e : (recL W).take (j + 3) = 114 :: UInt8.ofNat ((body W).length / 256) :: UInt8.ofNat ((body W).length % 256) :: (body W ++ sealL (front (body W))).take j := by
      unfold recL front
      simp
    rw [e, recAt, len_round (by omega), if_pos (.inr (by rw [List.length_take]; omega))]
theorem set_split {b : UInt8} : ∀ (L : List UInt8) (j : Nat) (_ : j < L.length), ∃ A c C, L = A ++ c :: C ∧ A.length = j ∧ L[j]? = some c ∧ L.set j b = A ++ b :: C
  | [], j, h => by simp at h
  | c :: C, 0, _ => ⟨[], c, C, rfl, rfl, rfl, rfl⟩
  | x :: L, j + 1, h => by
    obtain ⟨A, c, C, h1, h2, h3, h4⟩ := set_split (b := b) L j (by simpa using h)
    exact ⟨x :: A, c, C, by rw [h1]; rfl, by simp [h2], by simpa using h3, by simp [h4]⟩
/-- a spoilt record is none -/
theorem recAt_spoilt {n : Nat} {W : List Wr} (h : Good n W) {j : Nat} (hj : j < (recL W).length) {b c : UInt8} (hc : (recL W)[j]? = some c) (hbc : b ≠ c) (h1 : j ≠ 1) (h2 : j ≠ 2) (s : List UInt8) : recAt n ((recL W).set j b ++ s) = none := by
  have hb := h.body
  have hl := rec_len W
  by_cases h0 : j = 0
  · subst h0
    have e : (recL W).set 0 b ++ s = b :: UInt8.ofNat ((body W).length / 256) :: UInt8.ofNat ((body W).length % 256) :: (body W ++ (sealL (front (body W)) ++ s)) := by
      unfold recL front
      simp
    have hc' : c = 114 := by unfold recL front at hc; simpa using hc.symm
    rw [e, recAt_cons _ _ _ (by omega), if_pos (.inl (by rw [← hc']; exact hbc))]
  · obtain ⟨j', rfl⟩ : ∃ j', j = j' + 3 := ⟨j - 3, by omega⟩
    by_cases hjb : j' < (body W).length
    · obtain ⟨A, c', C, e1, e2, e3, e4⟩ := set_split (b := b) (body W) j' hjb
      have hcc : c' = c := by
        unfold recL front at hc
        simp only [List.cons_append, List.getElem?_cons_succ] at hc
        rw [List.getElem?_append_left hjb, e3] at hc
        exact Option.some.inj hc
      subst hcc
      have e : (recL W).set (j' + 3) b ++ s = 114 :: UInt8.ofNat (((body W).set j' b).length / 256) :: UInt8.ofNat (((body W).set j' b).length % 256) :: ((body W).set j' b ++ (sealL (front (body W)) ++ s)) := by
        rw [List.length_set]
        unfold recL front
        simp only [List.cons_append, List.set_cons_succ]
        rw [List.set_append_left _ _ hjb]
        simp
      rw [e, recAt_cons _ _ _ (by rw [List.length_set]; omega), if_neg (by simp [sealL_length]), List.take_left' (sealL_length _)]
      rw [if_pos]
      intro hs
      rw [List.length_set, e4] at hs
      unfold front at hs
      rw [e1] at hs
      have := sealL_turned (A := 114 :: UInt8.ofNat ((A ++ c' :: C).length / 256) :: UInt8.ofNat ((A ++ c' :: C).length % 256) :: A) (b := c') (b' := b) (C := C) hs
      exact hbc this.symm
    · obtain ⟨i, hi⟩ : ∃ i, j' = (body W).length + i := ⟨j' - (body W).length, by omega⟩
      subst hi
      have hi4 : i < (sealL (front (body W))).length := by rw [sealL_length]; omega
      have e : (recL W).set ((body W).length + i + 3) b ++ s = 114 :: UInt8.ofNat ((body W).length / 256) :: UInt8.ofNat ((body W).length % 256) :: (body W ++ ((sealL (front (body W))).set i b ++ s)) := by
        unfold recL front
        simp only [List.cons_append, List.set_cons_succ]
        rw [List.set_append_right _ _ (by omega)]
        simp
      have hcc : (sealL (front (body W)))[i]? = some c := by
        unfold recL front at hc
        simp only [List.cons_append, List.getElem?_cons_succ] at hc
        rw [List.getElem?_append_right (by omega)] at hc
        simpa [front] using hc
      rw [e, recAt_cons _ _ _ (by omega), if_neg (by simp [sealL_length]), List.take_left' (by simp [sealL_length])]
      rw [if_pos]
      intro hs
      have h3 : ((sealL (front (body W))).set i b)[i]? = some b := by rw [List.getElem?_set_self hi4]
      rw [hs] at h3
      have h4 : (sealL (front (body W)))[i]? = some b := h3
      rw [hcc] at h4
      exact hbc (Option.some.inj h4).symm

/-! ### the statements' words: many records fit below k, sum is their bytes -/
def bytesOf (L : List (List Wr)) : List UInt8 := L.flatMap recL
theorem take_split {L : List (List Wr)} {m : Nat} (hm : m < L.length) : bytesOf L = bytesOf (L.take m) ++ (recL L[m] ++ bytesOf (L.drop (m + 1))) := by
  have h : L = L.take m ++ L[m] :: L.drop (m + 1) := by
    rw [← List.drop_eq_getElem_cons hm, List.take_append_drop]
  unfold bytesOf
  conv => lhs; rw [h]
  rw [List.flatMap_append, List.flatMap_cons]
theorem scan_cut {n : Nat} {L : List (List Wr)} (h : ∀ W ∈ L, Good n W) {m k : Nat} (hm : m ≤ L.length) (h1 : (bytesOf (L.take m)).length ≤ k) (h2 : ∀ (hlt : m < L.length), k < (bytesOf (L.take m)).length + (recL L[m]).length) (_hk : k ≤ (bytesOf L).length) :
    scan n ((bytesOf L).take k) = (L.take m, (bytesOf (L.take m)).length) := by
  have hg : ∀ W ∈ L.take m, Good n W := fun W hW => h W (List.mem_of_mem_take hW)
  by_cases hlt : m < L.length
  · have hk2 := h2 hlt
    rw [take_split hlt, List.take_append, List.take_of_length_le h1, List.take_append_of_le_length (by omega)]
    have := scan_recs (L.take m) hg ((recL L[m]).take (k - (bytesOf (L.take m)).length))
    rw [scan_none (recAt_cut (h _ (List.getElem_mem hlt)) (by omega))] at this
    simpa [bytesOf] using this
  · have he : L.take m = L := List.take_of_length_le (by omega)
    rw [he] at h1 ⊢
    rw [List.take_of_length_le (by omega)]
    exact scan_all h
theorem scan_spoilt {n : Nat} {L : List (List Wr)} (h : ∀ W ∈ L, Good n W) {m k : Nat} (hlt : m < L.length) (h1 : (bytesOf (L.take m)).length ≤ k) (h2 : k < (bytesOf (L.take m)).length + (recL L[m]).length) {b c : UInt8} (hc : (bytesOf L)[k]? = some c) (hbc : b ≠ c) :
    if k - (bytesOf (L.take m)).length = 1 ∨ k - (bytesOf (L.take m)).length = 2 then (bytesOf (L.take m)).length ≤ (scan n ((bytesOf L).set k b)).2
    else scan n ((bytesOf L).set k b) = (L.take m, (bytesOf (L.take m)).length) := by
  have hg : ∀ W ∈ L.take m, Good n W := fun W hW => h W (List.mem_of_mem_take hW)
  obtain ⟨j, rfl⟩ : ∃ j, k = (bytesOf (L.take m)).length + j := ⟨k - (bytesOf (L.take m)).length, by omega⟩
  have hj : j < (recL L[m]).length := by omega
  have hs : (bytesOf L).set ((bytesOf (L.take m)).length + j) b = bytesOf (L.take m) ++ ((recL L[m]).set j b ++ bytesOf (L.drop (m + 1))) := by
    rw [take_split hlt, List.set_append_right _ _ (by omega), Nat.add_sub_cancel_left, List.set_append_left _ _ hj]
  have hcj : (recL L[m])[j]? = some c := by
    rw [take_split hlt, List.getElem?_append_right (by omega), Nat.add_sub_cancel_left, List.getElem?_append_left hj] at hc
    exact hc
  have hr := scan_recs (L.take m) hg ((recL L[m]).set j b ++ bytesOf (L.drop (m + 1)))
  change scan n (bytesOf (L.take m) ++ _) = _ at hr
  rw [hs, Nat.add_sub_cancel_left]
  by_cases h3 : j = 1 ∨ j = 2
  · rw [if_pos h3, hr]
    exact Nat.le_add_right _ _
  · rw [if_neg h3, hr, scan_none (recAt_spoilt (h _ (List.getElem_mem hlt)) hj hcj hbc (fun e => h3 (.inl e)) (fun e => h3 (.inr e)) _)]
    simp [bytesOf]
theorem rec_empty : recL [] = [114, 0, 1, 0, 1, 206, 0, 116] := by decide
theorem scan_empty : scan 1 [114, 0, 1, 0, 1, 206, 0, 116] = ([[]], 8) := by
  have h : Good 1 [] := ⟨by decide, by omega⟩
  have := scan_rec h []
  rw [List.append_nil, scan_none (recAt_nil _), rec_empty] at this
  exact this
/-- how many records lie whole within k bytes -/
def fits : List (List Wr) → Nat → Nat
  | [], _ => 0
  | W :: D, k => if (recL W).length ≤ k then fits D (k - (recL W).length) + 1 else 0
theorem fits_le : ∀ (D : List (List Wr)) (k : Nat), fits D k ≤ D.length
  | [], _ => Nat.le_refl _
  | W :: D, k => by
    unfold fits
    split
    · have := fits_le D (k - (recL W).length)
      rw [List.length_cons]
      omega
    · exact Nat.zero_le _
theorem fits_all : ∀ (D : List (List Wr)) (k : Nat), (bytesOf D).length ≤ k → fits D k = D.length
  | [], _, _ => rfl
  | W :: D, k, h => by
    unfold bytesOf at h
    rw [List.flatMap_cons, List.length_append] at h
    unfold fits
    rw [if_pos (by omega), fits_all D _ (by unfold bytesOf; omega), List.length_cons]
theorem fits_zero : ∀ (D : List (List Wr)), fits D 0 = 0
  | [] => rfl
  | W :: D => by
    unfold fits
    rw [if_neg (by rw [rec_len]; omega)]
theorem bytes_cons (W : List Wr) (D : List (List Wr)) : (bytesOf (W :: D)).length = (recL W).length + (bytesOf D).length := by
  unfold bytesOf
  rw [List.flatMap_cons, List.length_append]
theorem bytes_snoc {D : List (List Wr)} {k : Nat} {W : List Wr} (h : D[k]? = some W) : (bytesOf (D.take (k + 1))).length = (bytesOf (D.take k)).length + (recL W).length := by
  rw [take_snoc h]
  unfold bytesOf
  simp
theorem fits_spec : ∀ (D : List (List Wr)) (k : Nat), (bytesOf (D.take (fits D k))).length ≤ k ∧ ∀ (h : fits D k < D.length), k < (bytesOf (D.take (fits D k))).length + (recL D[fits D k]).length
  | [], k => ⟨Nat.zero_le _, fun h => by simp [fits] at h⟩
  | W :: D, k => by
    by_cases hc : (recL W).length ≤ k
    · obtain ⟨h1, h2⟩ := fits_spec D (k - (recL W).length)
      have e : fits (W :: D) k = fits D (k - (recL W).length) + 1 := by
        rw [fits, if_pos hc]
      refine ⟨?_, fun h => ?_⟩
      · rw [e, List.take_succ_cons, bytes_cons]
        omega
      · have h' : fits D (k - (recL W).length) < D.length := by rw [e] at h; simpa using h
        have := h2 h'
        have e3 : (W :: D)[fits (W :: D) k] = D[fits D (k - (recL W).length)] := by simp only [e]; rfl
        rw [e3, e, List.take_succ_cons, bytes_cons]
        omega
    · have e : fits (W :: D) k = 0 := by rw [fits, if_neg hc]
      refine ⟨by rw [e]; exact Nat.zero_le _, fun h => ?_⟩
      have e3 : (W :: D)[fits (W :: D) k] = W := by simp only [e]; rfl
      rw [e3, e]
      show k < 0 + _
      omega
theorem scan_fits {n : Nat} {L : List (List Wr)} (h : ∀ W ∈ L, Good n W) {k : Nat} (hk : k ≤ (bytesOf L).length) : scan n ((bytesOf L).take k) = (L.take (fits L k), (bytesOf (L.take (fits L k))).length) :=
  scan_cut h (fits_le L k) (fits_spec L k).1 (fits_spec L k).2 hk
theorem bytes_take (D : List (List Wr)) (k : Nat) : (bytesOf (D.take k)).length ≤ (bytesOf D).length := by
  have := congrArg (fun L => (bytesOf L).length) (List.take_append_drop k D)
  unfold bytesOf at this ⊢
  simp only [List.flatMap_append, List.length_append] at this
  omega
theorem bytes_mono (D : List (List Wr)) {j k : Nat} (h : j ≤ k) : (bytesOf (D.take j)).length ≤ (bytesOf (D.take k)).length := by
  have := bytes_take (D.take k) j
  rw [List.take_take, Nat.min_eq_left h] at this
  exact this
/-- the statements' loop: one record more fits just where it is one of them -/
theorem fits_more {D : List (List Wr)} {k j : Nat} {W : List Wr} (hj : j ≤ fits D k) (h : D[j]? = some W) : (bytesOf (D.take j)).length + (recL W).length ≤ k ↔ j < fits D k := by
  have hl := (List.getElem?_eq_some_iff.1 h).1
  constructor
  · intro h1
    by_cases he : j = fits D k
    · subst he
      have h2 := (fits_spec D k).2 hl
      rw [(List.getElem?_eq_some_iff.1 h).2] at h2
      omega
    · omega
  · intro h1
    rw [← bytes_snoc h]
    exact Nat.le_trans (bytes_mono D h1) (fits_spec D k).1
end LM
end Go.Proofs.YthjaanhkmfiajabDoor
