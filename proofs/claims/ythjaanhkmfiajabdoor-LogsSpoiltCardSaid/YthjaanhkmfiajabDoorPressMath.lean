/- Plain mathematics of run-length encoding over lists of bytes: the encoder of the code and the one of the document give the same list; decoding. No condition. -/
namespace Go.Proofs.YthjaanhkmfiajabDoor
namespace PM

/-- how many bytes at the head are c -/
def lead (c : UInt8) : List UInt8 → Nat
  | [] => 0
  | d :: l => if d = c then lead c l + 1 else 0

/-- the run at the head -/
def rl (l : List UInt8) : Nat := lead (l.headD 0) l

theorem lead_le (c : UInt8) : ∀ l : List UInt8, lead c l ≤ l.length
  | [] => Nat.le_refl _
  | d :: l => by unfold lead; split <;> simp <;> have := lead_le c l <;> omega

theorem rl_le (l : List UInt8) : rl l ≤ l.length := lead_le _ _
theorem rl_pos (c : UInt8) (l : List UInt8) : 1 ≤ rl (c :: l) := by simp [rl, lead]

/-- the prefix is c, and what stands behind it is not -/
theorem lead_at (c : UInt8) : ∀ (l : List UInt8) (n : Nat), n ≤ l.length → (∀ k, k < n → l[k]? = some c) → (n < l.length → l[n]? ≠ some c) → lead c l = n
  | [], n, h, _, _ => by simp at h; simp [lead, h]
  | d :: l, 0, _, _, h2 => by
    have : d ≠ c := by simpa using h2 (by simp)
    simp [lead, this]
  | d :: l, n + 1, h, h1, h2 => by
    have hd : d = c := by simpa using h1 0 (by omega)
    simp only [lead, hd, if_pos]
    congr 1
    exact lead_at c l n (by simpa using h) (fun k hk => by simpa using h1 (k + 1) (by omega)) (fun hn => by simpa using h2 (by simpa using hn))

theorem lead_get (c : UInt8) : ∀ (l : List UInt8) (k : Nat), k < lead c l → l[k]? = some c
  | [], k, h => by simp [lead] at h
  | d :: l, k, h => by
    unfold lead at h
    split at h
    · match k with
      | 0 => simpa
      | k + 1 => simpa using lead_get c l k (by omega)
    · omega

theorem lead_take (c : UInt8) : ∀ (l : List UInt8), l.take (lead c l) = List.replicate (lead c l) c
  | [] => by simp [lead]
  | d :: l => by
    unfold lead
    split
    · rename_i h; subst h; simp [List.replicate_succ, lead_take d l]
    · simp

/-- how many bytes stand before the next run -/
def lit : List UInt8 → Nat
  | [] => 0
  | c :: l => if rl (c :: l) < 3 then lit l + 1 else 0

theorem lit_le : ∀ l : List UInt8, lit l ≤ l.length
  | [] => Nat.le_refl _
  | c :: l => by unfold lit; split <;> simp <;> have := lit_le l <;> omega

theorem lit_at : ∀ (l : List UInt8) (n : Nat), n ≤ l.length → (∀ k, k < n → rl (l.drop k) < 3) → (n < l.length → ¬ rl (l.drop n) < 3) → lit l = n
  | [], n, h, _, _ => by simp at h; simp [lit, h]
  | d :: l, 0, _, _, h2 => by
    have := h2 (by simp)
    simp only [List.drop_zero] at this
    simp [lit, this]
  | d :: l, n + 1, h, h1, h2 => by
    have hd := h1 0 (by omega)
    simp only [List.drop_zero] at hd
    simp only [lit, hd, if_pos]
    congr 1
    exact lit_at l n (by simpa using h) (fun k hk => by simpa using h1 (k + 1) (by omega)) (fun hn => by simpa using h2 (by simpa using hn))

theorem lit_lt : ∀ (l : List UInt8) (k : Nat), k < lit l → rl (l.drop k) < 3
  | [], k, h => by simp [lit] at h
  | d :: l, k, h => by
    unfold lit at h
    split at h
    · match k with
      | 0 => simpa
      | k + 1 => simpa using lit_lt l k (by omega)
    · omega

/-- the encoder as the code has it -/
def enc (l : List UInt8) : List UInt8 :=
  if _h : l = [] then []
  else if 3 ≤ rl l then UInt8.ofNat (125 + rl l) :: l.headD 0 :: enc (l.drop (rl l))
  else UInt8.ofNat (lit l.tail) :: (l.take (lit l.tail + 1) ++ enc (l.drop (lit l.tail + 1)))
termination_by l.length
decreasing_by
  all_goals simp_wf
  all_goals (have : 0 < l.length := List.length_pos_iff.2 (by assumption)); omega

theorem enc_nil : enc [] = [] := by rw [enc]; simp
theorem enc_run {l : List UInt8} (h : 3 ≤ rl l) : enc l = UInt8.ofNat (125 + rl l) :: l.headD 0 :: enc (l.drop (rl l)) := by
  have hne : l ≠ [] := by intro e; subst e; simp [rl, lead] at h
  rw [enc, dif_neg hne, if_pos h]
theorem enc_lit {l : List UInt8} (hne : l ≠ []) (h : ¬ 3 ≤ rl l) : enc l = UInt8.ofNat (lit l.tail) :: (l.take (lit l.tail + 1) ++ enc (l.drop (lit l.tail + 1))) := by
  rw [enc, dif_neg hne, if_neg h]

theorem enc_len2 : ∀ (n : Nat) (l : List UInt8), l.length = n → (enc l).length ≤ 2 * l.length := by
  intro n
  induction n using Nat.strongRecOn with
  | ind n ih =>
    intro l hl
    by_cases hne : l = []
    · subst hne; simp [enc_nil]
    · have hpos : 0 < l.length := List.length_pos_iff.2 hne
      by_cases h : 3 ≤ rl l
      · have := rl_le l
        have := ih (l.drop (rl l)).length (by simp; omega) _ rfl
        rw [enc_run h]; simp at this ⊢; omega
      · have := lit_le l.tail
        have := ih (l.drop (lit l.tail + 1)).length (by simp; omega) _ rfl
        rw [enc_lit hne h]; simp at this ⊢; omega

/-- what the document's loop writes before it goes on -/
def flush (p : List UInt8) : List UInt8 := if p = [] then [] else UInt8.ofNat (p.length - 1) :: p
theorem flush_nil : flush [] = [] := rfl
theorem flush_ne {p : List UInt8} (h : p ≠ []) : flush p = UInt8.ofNat (p.length - 1) :: p := by simp [flush, h]

/-- the encoder as the document's loop has it: p: the bytes that are held back -/
def refGo (p l : List UInt8) : List UInt8 :=
  if _h : l = [] then flush p
  else if 3 ≤ rl l then flush p ++ (UInt8.ofNat (125 + rl l) :: l.headD 0 :: refGo [] (l.drop (rl l)))
  else refGo (p ++ [l.headD 0]) l.tail
termination_by l.length
decreasing_by
  all_goals simp_wf
  all_goals (have : 0 < l.length := List.length_pos_iff.2 (by assumption)); omega

theorem refGo_nil (p : List UInt8) : refGo p [] = flush p := by rw [refGo]; simp
theorem refGo_run {p l : List UInt8} (h : 3 ≤ rl l) : refGo p l = flush p ++ (UInt8.ofNat (125 + rl l) :: l.headD 0 :: refGo [] (l.drop (rl l))) := by
  have hne : l ≠ [] := by intro e; subst e; simp [rl, lead] at h
  rw [refGo, dif_neg hne, if_pos h]
theorem refGo_one {p l : List UInt8} (hne : l ≠ []) (h : ¬ 3 ≤ rl l) : refGo p l = refGo (p ++ [l.headD 0]) l.tail := by
  rw [refGo, dif_neg hne, if_neg h]

theorem refGo_both : ∀ (n : Nat) (l : List UInt8), l.length = n → refGo [] l = enc l ∧ ∀ p, p ≠ [] → refGo p l = UInt8.ofNat (p.length + lit l - 1) :: (p ++ l.take (lit l)) ++ enc (l.drop (lit l)) := by
  intro n
  induction n using Nat.strongRecOn with
  | ind n ih =>
    intro l hl
    match l, hl with
    | [], _ => exact ⟨by rw [refGo_nil, enc_nil]; rfl, fun p hp => by rw [refGo_nil, flush_ne hp]; simp [lit, enc_nil]⟩
    | c :: t, hl =>
      by_cases h : 3 ≤ rl (c :: t)
      · have hd := (ih ((c :: t).drop (rl (c :: t))).length (by rw [← hl]; simp; omega) _ rfl).1
        refine ⟨by rw [refGo_run h, enc_run h, hd, flush_nil]; rfl, fun p hp => ?_⟩
        have h0 : lit (c :: t) = 0 := by simp only [lit]; rw [if_neg (by omega)]
        rw [refGo_run h, h0, hd, flush_ne hp]
        simp only [List.take_zero, List.drop_zero, List.append_nil, Nat.add_zero, enc_run h]
      · have ht := (ih t.length (by rw [← hl]; simp) t rfl).2
        have h1 : lit (c :: t) = lit t + 1 := by simp only [lit]; rw [if_pos (by omega)]
        refine ⟨?_, fun p hp => ?_⟩
        · rw [refGo_one (by simp) h, enc_lit (by simp) h]
          simp only [List.nil_append, List.headD_cons, List.tail_cons]
          rw [ht [c] (by simp)]
          simp only [List.length_singleton, List.take_succ_cons, List.drop_succ_cons, List.cons_append, List.nil_append]
          rw [show 1 + lit t - 1 = lit t by omega]
        · rw [refGo_one (by simp) h]
          simp only [List.headD_cons, List.tail_cons]
          rw [ht (p ++ [c]) (by simp), h1]
          simp only [List.length_append, List.length_singleton, List.take_succ_cons, List.drop_succ_cons, List.append_assoc, List.singleton_append]
          rw [show p.length + 1 + lit t - 1 = p.length + (lit t + 1) - 1 by omega]

theorem refGo_enc (l : List UInt8) : refGo [] l = enc l := (refGo_both _ l rfl).1

/-- what a decoder gives: the bytes, or the number of the error -/
inductive Res | ok (l : List UInt8) | err (n : Nat)

/-- the element's own bytes behind its first: n -/
def elen (c : UInt8) : Nat := if c.toNat < 128 then c.toNat + 1 else 1
/-- what it stands for -/
def ebytes (c : UInt8) (t : List UInt8) : List UInt8 := if c.toNat < 128 then t.take (c.toNat + 1) else List.replicate (c.toNat - 125) (t.headD 0)
def ecount (c : UInt8) : Nat := if c.toNat < 128 then c.toNat + 1 else c.toNat - 125

theorem elen_pos (c : UInt8) : 1 ≤ elen c := by unfold elen; split <;> omega
theorem elen_le (c : UInt8) : elen c ≤ 128 := by unfold elen; split <;> omega
theorem ecount_le (c : UInt8) : ecount c ≤ 130 := by unfold ecount; split <;> have := c.toNat_lt <;> omega
theorem ecount_pos (c : UInt8) : 1 ≤ ecount c := by unfold ecount; split <;> omega
theorem ebytes_length (c : UInt8) (t : List UInt8) (h : elen c ≤ t.length) : (ebytes c t).length = ecount c := by
  unfold ebytes ecount
  unfold elen at h
  split
  · rename_i hc; rw [if_pos hc] at h; simp; omega
  · simp

def dec (out : List UInt8) : List UInt8 → Res
  | [] => .ok out
  | c :: t => if t.length < elen c then .err 5 else if 48 < out.length + ecount c then .err 1 else dec (out ++ ebytes c t) (t.drop (elen c))
termination_by l => l.length
decreasing_by simp_wf; omega

theorem dec_nil (out : List UInt8) : dec out [] = .ok out := by rw [dec]
theorem dec_short {out : List UInt8} {c : UInt8} {t : List UInt8} (h : t.length < elen c) : dec out (c :: t) = .err 5 := by rw [dec, if_pos h]
theorem dec_long {out : List UInt8} {c : UInt8} {t : List UInt8} (h : ¬ t.length < elen c) (h2 : 48 < out.length + ecount c) : dec out (c :: t) = .err 1 := by rw [dec, if_neg h, if_pos h2]
theorem dec_go {out : List UInt8} {c : UInt8} {t : List UInt8} (h : ¬ t.length < elen c) (h2 : ¬ 48 < out.length + ecount c) : dec out (c :: t) = dec (out ++ ebytes c t) (t.drop (elen c)) := by rw [dec, if_neg h, if_neg h2]

theorem dec_ok_le : ∀ (n : Nat) (l out r : List UInt8), l.length = n → out.length ≤ 48 → dec out l = .ok r → r.length ≤ 48 := by
  intro n
  induction n using Nat.strongRecOn with
  | ind n ih =>
    intro l out r hl ho h
    match l, hl with
    | [], _ => rw [dec_nil] at h; cases h; exact ho
    | c :: t, hl =>
      by_cases h1 : t.length < elen c
      · rw [dec_short h1] at h; cases h
      · by_cases h2 : 48 < out.length + ecount c
        · rw [dec_long h1 h2] at h; cases h
        · rw [dec_go h1 h2] at h
          refine ih (t.drop (elen c)).length (by rw [← hl]; simp; omega) _ _ _ rfl ?_ h
          rw [List.length_append, ebytes_length c t (by omega)]; omega

end PM
end Go.Proofs.YthjaanhkmfiajabDoor
