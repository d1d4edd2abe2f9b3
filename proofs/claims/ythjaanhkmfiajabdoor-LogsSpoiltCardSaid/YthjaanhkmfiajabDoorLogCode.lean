/- Reading a record the way package log does: decode the front of the body, record again, compare. It is the same as the document's reading (LogMath's recAt). Besides: how many records a scan can find, how long a small record is. Condition: at most 32 blocks. No program's run. -/
import Derived.Test.YthjaanhkmfiajabDoorLogMath
namespace Go.Proofs.YthjaanhkmfiajabDoor
open PM
namespace LM

/-- the writes at the front: what follows them is not looked at -/
def parseP : Nat → List UInt8 → Option (List Wr)
  | 0, _ => some []
  | k + 1, b :: n :: rest =>
    if rest.length < n.toNat then none
    else match unp (rest.take n.toNat) with
      | none => none
      | some d => (parseP k (rest.drop n.toNat)).map fun W => ⟨(b.toNat : Int), ⟨d.toArray⟩⟩ :: W
  | _ + 1, _ => none
theorem unp_inv {s d : List UInt8} (h : unp s = some d) : enc d = s := by
  unfold unp at h
  split at h
  · rename_i d' _
    by_cases he : enc d' = s
    · rw [if_pos he] at h; cases h; exact he
    · rw [if_neg he] at h; cases h
  · cases h
theorem parse_inv : ∀ (k : Nat) (s : List UInt8) (W : List Wr), parse k s = some W → W.length = k ∧ W.flatMap wbytes = s ∧ parseP k s = some W
  | 0, s, W, h => by
    unfold parse at h
    by_cases hs : s = []
    · rw [if_pos hs] at h; cases h; subst hs; exact ⟨rfl, rfl, rfl⟩
    · rw [if_neg hs] at h; cases h
  | k + 1, b :: n :: rest, W, h => by
    rw [parse] at h
    by_cases hl : rest.length < n.toNat
    · rw [if_pos hl] at h; cases h
    · rw [if_neg hl] at h
      cases hu : unp (rest.take n.toNat) with
      | none => rw [hu] at h; cases h
      | some d =>
        rw [hu] at h
        simp only at h
        obtain ⟨V, hV, rfl⟩ := Option.map_eq_some_iff.1 h
        obtain ⟨h1, h2, h3⟩ := parse_inv k _ V hV
        have he := unp_inv hu
        refine ⟨by simp [h1], ?_, ?_⟩
        · have hw : wbytes ⟨(b.toNat : Int), ⟨d.toArray⟩⟩ = b :: n :: rest.take n.toNat := by
            show UInt8.ofNat (b.toNat : Int).toNat :: UInt8.ofNat (enc d).length :: enc d = _
            rw [he, List.length_take, Nat.min_eq_left (by omega), Int.toNat_natCast, UInt8.ofNat_toNat, UInt8.ofNat_toNat]
          rw [List.flatMap_cons, h2, hw]
          simp
        · rw [parseP, if_neg hl, hu]
          simp only
          rw [h3]
          rfl
  | k + 1, [], W, h => by simp [parse] at h
  | k + 1, [b], W, h => by simp [parse] at h
def parseB : List UInt8 → Option (List Wr)
  | [] => none
  | k :: b => parseP k.toNat b
/-- the record in front, as the code looks for it; z: the two bytes of the length -/
def codeAt (n : Int) (s : List UInt8) (z : Nat) : Option (List Wr × Nat) :=
  if s.length < z + 7 then none
  else match parseB ((s.drop 3).take z) with
    | none => none
    | some W => if wFault W n = 0 ∧ recL W = s.take (z + 7) then some (W, z + 7) else none
theorem codeAt_some {n : Nat} (hn : n ≤ 32) {s : List UInt8} {z : Nat} {W : List Wr} {u : Nat} (h : codeAt n s z = some (W, u)) : recAt n s = some (W, u) := by
  unfold codeAt at h
  by_cases hl : s.length < z + 7
  · rw [if_pos hl] at h; cases h
  · rw [if_neg hl] at h
    split at h
    · cases h
    · rename_i V _
      by_cases hc : wFault V n = 0 ∧ recL V = s.take (z + 7)
      · rw [if_pos hc] at h
        cases h
        have hr := recAt_rec (W := W) ⟨hc.1, hn⟩ (s.drop (z + 7))
        rw [hc.2, List.take_append_drop, List.length_take, Nat.min_eq_left (by omega)] at hr
        exact hr
      · rw [if_neg hc] at h; cases h
theorem recAt_code {n : Nat} {c h l : UInt8} {rest : List UInt8} {W : List Wr} {u : Nat} (hr : recAt n (c :: h :: l :: rest) = some (W, u)) :
    codeAt n (c :: h :: l :: rest) (256 * h.toNat + l.toNat) = some (W, u) := by
  rw [recAt] at hr
  by_cases h1 : c ≠ 114 ∨ rest.length < 256 * h.toNat + l.toNat + 4
  · rw [if_pos h1] at hr; cases hr
  · rw [if_neg h1] at hr
    have hc : c = 114 := Classical.byContradiction fun hh => h1 (.inl hh)
    have hlen : ¬ rest.length < 256 * h.toNat + l.toNat + 4 := fun hh => h1 (.inr hh)
    by_cases h2 : (rest.drop (256 * h.toNat + l.toNat)).take 4 ≠ sealL (c :: h :: l :: rest.take (256 * h.toNat + l.toNat))
    · rw [if_pos h2] at hr; cases hr
    · rw [if_neg h2] at hr
      have h2' := Classical.not_not.1 h2
      generalize hz : 256 * h.toNat + l.toNat = z at hr h2' hlen ⊢
      have hzlen : (rest.take z).length = z := by rw [List.length_take]; omega
      cases hb : rest.take z with
      | nil => rw [hb] at hr; cases hr
      | cons k b =>
        rw [hb] at hr
        simp only at hr
        cases hp : parse k.toNat b with
        | none => rw [hp] at hr; cases hr
        | some V =>
          rw [hp] at hr
          simp only at hr
          by_cases hw : wFault V n = 0
          · rw [if_pos hw] at hr
            cases hr
            obtain ⟨p1, p2, p3⟩ := parse_inv _ _ _ hp
            have hbody : body W = rest.take z := by
              unfold body
              rw [p1, p2, UInt8.ofNat_toNat, hb]
            have hfront : front (body W) = c :: h :: l :: rest.take z := by
              unfold front
              rw [hbody, hzlen, hc]
              have e1 : z / 256 = h.toNat := by have := l.toNat_lt; omega
              have e2 : z % 256 = l.toNat := by have := l.toNat_lt; omega
              rw [e1, e2, UInt8.ofNat_toNat, UInt8.ofNat_toNat]
            have hrec : recL W = (c :: h :: l :: rest).take (z + 7) := by
              unfold recL
              rw [hfront, ← h2', show z + 7 = (z + 4) + 3 by omega]
              simp only [List.take_succ_cons, List.cons_append]
              rw [List.take_add]
            unfold codeAt
            rw [if_neg (by simp only [List.length_cons]; omega)]
            have hd : ((c :: h :: l :: rest).drop 3).take z = k :: b := by simp [hb]
            rw [hd]
            show (match parseP k.toNat b with | none => none | some W' => _) = _
            rw [p3]
            simp only
            rw [if_pos ⟨hw, hrec⟩]
          · rw [if_neg hw] at hr; cases hr
theorem recAt_three {n : Nat} (hn : n ≤ 32) (c h l : UInt8) (rest : List UInt8) : recAt n (c :: h :: l :: rest) = codeAt n (c :: h :: l :: rest) (256 * h.toNat + l.toNat) := by
  cases hc : codeAt n (c :: h :: l :: rest) (256 * h.toNat + l.toNat) with
  | some p => exact codeAt_some hn hc
  | none =>
    cases hr : recAt n (c :: h :: l :: rest) with
    | none => rfl
    | some p => rw [recAt_code (W := p.1) (u := p.2) hr] at hc; cases hc
theorem recAt_short {n : Int} {s : List UInt8} (h : s.length < 3) : recAt n s = none := by
  match s, h with
  | [], _ => rfl
  | [_], _ => rfl
  | [_, _], _ => rfl
  | _ :: _ :: _ :: _, h => simp at h; omega

/-! ### how many records a scan finds -/
theorem recAt_mark {n : Int} {s : List UInt8} {W : List Wr} {u : Nat} (h : recAt n s = some (W, u)) : ∃ t, s = 114 :: t := by
  unfold recAt at h
  split at h
  · rename_i c h' l rest
    by_cases h1 : c ≠ 114 ∨ rest.length < 256 * h'.toNat + l.toNat + 4
    · rw [if_pos h1] at h; cases h
    · have hc : c = 114 := Classical.byContradiction fun hh => h1 (.inl hh)
      exact ⟨_, by rw [hc]⟩
  · cases h
theorem scan_count (n : Int) : ∀ (k : Nat) (s : List UInt8), s.length = k → (scan n s).1.length ≤ s.count 114 := by
  intro k
  induction k using Nat.strongRecOn with
  | ind k ih =>
    intro s hs
    cases hr : recAt n s with
    | none => rw [scan_none hr]; simp
    | some p =>
      obtain ⟨W, u⟩ := p
      have hu := recAt_le hr
      rw [scan_some hr]
      have h1 := ih (s.drop u).length (by rw [List.length_drop]; omega) _ rfl
      obtain ⟨t, ht⟩ := recAt_mark hr
      have h2 : s.count 114 = (s.take u).count 114 + (s.drop u).count 114 := by rw [← List.count_append, List.take_append_drop]
      have h3 : 1 ≤ (s.take u).count 114 := by
        obtain ⟨u', rfl⟩ : ∃ u', u = u' + 1 := ⟨u - 1, by omega⟩
        rw [ht, List.take_succ_cons, List.count_cons_self]
        omega
      simp only [List.length_cons]
      omega
theorem scan_le (n : Int) : ∀ (k : Nat) (s : List UInt8), s.length = k → (scan n s).2 ≤ s.length := by
  intro k
  induction k using Nat.strongRecOn with
  | ind k ih =>
    intro s hs
    cases hr : recAt n s with
    | none => rw [scan_none hr]; simp
    | some p =>
      obtain ⟨W, u⟩ := p
      have hu := recAt_le hr
      rw [scan_some hr]
      have h1 := ih (s.drop u).length (by rw [List.length_drop]; omega) _ rfl
      rw [List.length_drop] at h1
      simp only
      omega

/-! ### small records: at most four writes of at most fifteen packed bytes, none of them 'r' -/
structure Tiny (x : Wr) : Prop where
  blk : 0 ≤ x.block ∧ x.block < 32
  len : (enc x.data.data.toList).length ≤ 15
  no : (114 : UInt8) ∉ enc x.data.data.toList
theorem Tiny.bytes {x : Wr} (h : Tiny x) : (wbytes x).length ≤ 17 ∧ (114 : UInt8) ∉ wbytes x := by
  have h1 := h.len
  have h2 := h.blk
  refine ⟨by unfold wbytes; simp only [List.length_cons]; omega, ?_⟩
  unfold wbytes
  simp only [List.mem_cons, not_or]
  refine ⟨fun e => ?_, fun e => ?_, h.no⟩
  · have := ofNat_inj (a := 114) (b := x.block.toNat) (by omega) (by omega) e
    omega
  · have := ofNat_inj (a := 114) (by omega) (by omega) e
    omega
theorem tiny_body {W : List Wr} (h : ∀ x ∈ W, Tiny x) (h4 : W.length ≤ 4) : (body W).length ≤ 69 ∧ (114 : UInt8) ∉ body W := by
  have hb : ∀ W : List Wr, (∀ x ∈ W, Tiny x) → (W.flatMap wbytes).length ≤ 17 * W.length ∧ (114 : UInt8) ∉ W.flatMap wbytes := by
    intro W
    induction W with
    | nil => simp
    | cons x W ih =>
      intro h
      obtain ⟨a1, a2⟩ := (h x (by simp)).bytes
      obtain ⟨b1, b2⟩ := ih (fun y hy => h y (by simp [hy]))
      rw [List.flatMap_cons, List.length_append, List.length_cons, List.mem_append]
      exact ⟨by omega, fun hh => hh.elim a2 b2⟩
  obtain ⟨h1, h2⟩ := hb W h
  unfold body
  rw [List.length_cons, List.mem_cons, not_or]
  refine ⟨by omega, fun e => ?_, h2⟩
  have := ofNat_inj (a := 114) (b := W.length) (by omega) (by omega) e
  omega
theorem tiny_rec {W : List Wr} (h : ∀ x ∈ W, Tiny x) (h4 : W.length ≤ 4) : (recL W).length ≤ 76 ∧ (recL W).count 114 ≤ 5 := by
  obtain ⟨h1, h2⟩ := tiny_body h h4
  refine ⟨by rw [rec_len]; omega, ?_⟩
  unfold recL front
  have n1 : UInt8.ofNat ((body W).length / 256) ≠ 114 := fun e => by
    have := ofNat_inj (b := 114) (by omega) (by omega) e
    omega
  have n2 : UInt8.ofNat ((body W).length % 256) ≠ 114 := fun e => by
    have := ofNat_inj (b := 114) (by omega) (by omega) e
    omega
  rw [List.count_append, List.count_cons_self, List.count_cons_of_ne n1, List.count_cons_of_ne n2, List.count_eq_zero_of_not_mem h2]
  have := List.count_le_length (a := (114 : UInt8)) (l := sealL (114 :: UInt8.ofNat ((body W).length / 256) :: UInt8.ofNat ((body W).length % 256) :: body W))
  rw [sealL_length] at this
  omega
theorem tiny_bytes : ∀ {L : List (List Wr)}, (∀ W ∈ L, W.length ≤ 4 ∧ ∀ x ∈ W, Tiny x) → (bytesOf L).length ≤ 76 * L.length ∧ (bytesOf L).count 114 ≤ 5 * L.length
  | [], _ => by simp [bytesOf]
  | W :: L, h => by
    have h1 := tiny_rec (h W (by simp)).2 (h W (by simp)).1
    have h2 := tiny_bytes (L := L) (fun V hV => h V (by simp [hV]))
    unfold bytesOf at h2 ⊢
    rw [List.flatMap_cons, List.length_append, List.count_append, List.length_cons]
    omega
theorem count_set : ∀ (s : List UInt8) (k : Nat) (b : UInt8), (s.set k b).count 114 ≤ s.count 114 + 1
  | [], k, b => by simp
  | c :: s, 0, b => by
    rw [List.set_cons_zero, List.count_cons, List.count_cons]
    split <;> split <;> omega
  | c :: s, k + 1, b => by
    have := count_set s k b
    rw [List.set_cons_succ, List.count_cons, List.count_cons]
    omega
/-- each byte of a packed text is one of its own, a run's head, or below its length -/
theorem enc_mem : ∀ (n : Nat) (l : List UInt8), l.length = n → l.length ≤ 48 → ∀ b ∈ enc l, b ∈ l ∨ 128 ≤ b.toNat ∨ b.toNat < l.length := by
  intro n
  induction n using Nat.strongRecOn with
  | ind n ih =>
    intro l hl h48 b hb
    by_cases hne : l = []
    · subst hne; rw [enc_nil] at hb; cases hb
    · have hpos : 0 < l.length := List.length_pos_iff.2 hne
      by_cases h : 3 ≤ rl l
      · have h1 := rl_le l
        rw [enc_run h] at hb
        simp only [List.mem_cons] at hb
        rcases hb with rfl | rfl | hb
        · right; left
          rw [toNat_of (by omega)]
          omega
        · left
          match l, hpos with
          | c :: t, _ => simp
        · rcases ih (l.drop (rl l)).length (by simp; omega) _ rfl (by simp; omega) b hb with h3 | h3 | h3
          · exact .inl (List.mem_of_mem_drop h3)
          · exact .inr (.inl h3)
          · exact .inr (.inr (by rw [List.length_drop] at h3; omega))
      · have h1 := lit_le l.tail
        rw [List.length_tail] at h1
        rw [enc_lit hne h] at hb
        simp only [List.mem_cons, List.mem_append] at hb
        rcases hb with rfl | hb | hb
        · right; right
          rw [toNat_of (by omega)]
          omega
        · exact .inl (List.mem_of_mem_take hb)
        · rcases ih (l.drop (lit l.tail + 1)).length (by simp; omega) _ rfl (by simp; omega) b hb with h3 | h3 | h3
          · exact .inl (List.mem_of_mem_drop h3)
          · exact .inr (.inl h3)
          · exact .inr (.inr (by rw [List.length_drop] at h3; omega))
end LM
end Go.Proofs.YthjaanhkmfiajabDoor
