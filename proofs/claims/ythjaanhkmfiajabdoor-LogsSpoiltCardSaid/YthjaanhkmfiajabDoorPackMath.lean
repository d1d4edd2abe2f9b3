/- Plain mathematics of run-length encoding, further: decoding what was encoded gives it back; an encoding is at most one byte longer; a run's encoding. Condition of dec_enc: together at most 48 bytes. -/
import Derived.Test.YthjaanhkmfiajabDoorPressMath
namespace Go.Proofs.YthjaanhkmfiajabDoor
namespace PM

theorem lit_end : ∀ l : List UInt8, lit l < l.length → 3 ≤ rl (l.drop (lit l))
  | [], h => by simp at h
  | c :: l, h => by
    unfold lit at h ⊢
    by_cases h3 : rl (c :: l) < 3
    · rw [if_pos h3] at h ⊢
      simp only [List.drop_succ_cons]
      exact lit_end l (by simpa using h)
    · rw [if_neg h3]
      simp only [List.drop_zero]
      omega

theorem enc_len1 : ∀ (n : Nat) (l : List UInt8), l.length = n → (enc l).length ≤ l.length + 1 ∧ (l = [] ∨ 3 ≤ rl l → (enc l).length ≤ l.length) := by
  intro n
  induction n using Nat.strongRecOn with
  | ind n ih =>
    intro l hl
    by_cases hne : l = []
    · subst hne; simp [enc_nil]
    · have hpos : 0 < l.length := List.length_pos_iff.2 hne
      by_cases h : 3 ≤ rl l
      · have h1 := rl_le l
        have h2 := (ih (l.drop (rl l)).length (by simp; omega) _ rfl).1
        have h3 : (enc l).length ≤ l.length := by rw [enc_run h]; simp at h2 ⊢; omega
        exact ⟨by omega, fun _ => h3⟩
      · have h1 := lit_le l.tail
        have h2 := (ih (l.drop (lit l.tail + 1)).length (by simp; omega) _ rfl).2
        have h3 : l.drop (lit l.tail + 1) = [] ∨ 3 ≤ rl (l.drop (lit l.tail + 1)) := by
          by_cases hh : lit l.tail < l.tail.length
          · right
            have := lit_end l.tail hh
            rw [← List.drop_one, List.drop_drop] at this
            rw [Nat.add_comm]
            rw [← List.drop_one] 
            exact this
          · left
            exact List.drop_eq_nil_of_le (by simp at hh; omega)
        have h4 := h2 h3
        refine ⟨?_, fun hc => absurd hc (by intro hc; rcases hc with hc | hc; exact hne hc; exact h hc)⟩
        rw [enc_lit hne h]
        simp at h4 h1 ⊢
        omega

theorem head_take (l : List UInt8) : l.take (rl l) = List.replicate (rl l) (l.headD 0) := lead_take _ _

theorem dec_enc : ∀ (n : Nat) (l out : List UInt8), l.length = n → out.length + l.length ≤ 48 → dec out (enc l) = .ok (out ++ l) := by
  intro n
  induction n using Nat.strongRecOn with
  | ind n ih =>
    intro l out hl hb
    by_cases hne : l = []
    · subst hne; rw [enc_nil, dec_nil]; simp
    · have hpos : 0 < l.length := List.length_pos_iff.2 hne
      by_cases h : 3 ≤ rl l
      · have h1 := rl_le l
        have hc : (UInt8.ofNat (125 + rl l)).toNat = 125 + rl l := by simp; omega
        have he : elen (UInt8.ofNat (125 + rl l)) = 1 := by unfold elen; rw [hc, if_neg (by omega)]
        have hk : ecount (UInt8.ofNat (125 + rl l)) = rl l := by unfold ecount; rw [hc, if_neg (by omega)]; omega
        have hy : ∀ t, ebytes (UInt8.ofNat (125 + rl l)) (l.headD 0 :: t) = l.take (rl l) := by
          intro t; unfold ebytes; rw [hc, if_neg (by omega), head_take]; simp
        rw [enc_run h, dec_go (by rw [he]; simp) (by rw [hk]; omega), hy, he]
        simp only [List.drop_succ_cons, List.drop_zero]
        rw [ih (l.drop (rl l)).length (by simp; omega) _ _ rfl (by simp; omega)]
        rw [List.append_assoc, List.take_append_drop]
      · have h1 := lit_le l.tail
        rw [List.length_tail] at h1
        have hc : (UInt8.ofNat (lit l.tail)).toNat = lit l.tail := by simp; omega
        have he : elen (UInt8.ofNat (lit l.tail)) = lit l.tail + 1 := by unfold elen; rw [hc, if_pos (by omega)]
        have hk : ecount (UInt8.ofNat (lit l.tail)) = lit l.tail + 1 := by unfold ecount; rw [hc, if_pos (by omega)]
        have hlt : (l.take (lit l.tail + 1)).length = lit l.tail + 1 := by simp; omega
        have hy : ∀ t, ebytes (UInt8.ofNat (lit l.tail)) (l.take (lit l.tail + 1) ++ t) = l.take (lit l.tail + 1) := by
          intro t; unfold ebytes; rw [hc, if_pos (by omega), List.take_append_of_le_length (by omega), List.take_of_length_le (by omega)]
        have hz : ∀ t, (l.take (lit l.tail + 1) ++ t).drop (lit l.tail + 1) = t := by
          intro t; rw [List.drop_append_of_le_length (by omega), List.drop_eq_nil_of_le (by omega)]; rfl
        rw [enc_lit hne h, dec_go (by rw [he, List.length_append]; omega) (by rw [hk]; omega), hy, he, hz]
        rw [ih (l.drop (lit l.tail + 1)).length (by simp; omega) _ _ rfl (by simp; omega)]
        rw [List.append_assoc, List.take_append_drop]

theorem rl_rep (c : UInt8) (k : Nat) (h : 0 < k) : rl (List.replicate k c) = k := by
  have hd : (List.replicate k c).headD 0 = c := by
    match k, h with
    | k + 1, _ => rfl
  unfold rl
  rw [hd]
  refine lead_at c _ k (by simp) (fun j hj => by simp [hj]) (fun hj => by simp at hj)

theorem enc_rep (c : UInt8) (k : Nat) (h : 3 ≤ k) : enc (List.replicate k c) = [UInt8.ofNat (125 + k), c] := by
  have hd : (List.replicate k c).headD 0 = c := by
    match k, h with
    | k + 1, _ => rfl
  rw [enc_run (by rw [rl_rep c k (by omega)]; exact h), rl_rep c k (by omega), hd, List.drop_eq_nil_of_le (by simp), enc_nil]

end PM
end Go.Proofs.YthjaanhkmfiajabDoor
