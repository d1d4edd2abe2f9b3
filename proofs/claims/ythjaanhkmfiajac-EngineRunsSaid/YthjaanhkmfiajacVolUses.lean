/- volume.countUses: what it returns, a map that reads as the fold of its puts; what that fold holds. Condition: at most 1000000 blocks. -/
import Derived.Test.YthjaanhkmfiajacRepoMap
import Derived.Test.YthjaanhkmfiajacPure
import Derived.Maps.OwnSet
namespace Go.Proofs.Ythjaanhkmfiajac
open Go.RowKit Go.Maps Go.WideMaps

def ikey (z : Int) : Lit := .int .i64 z
theorem ikey_inj {a b : Int} (h : ikey a = ikey b) : a = b := by
  unfold ikey at h
  injection h
theorem ikey_is (z : Int) : WideAt.IsKeyLit (ikey z) := trivial

/-- the map's datum after k rounds -/
def umap (Z : List Int) : Nat → DataW Unit
  | 0 => .map []
  | k + 1 => match Z[k]? with
    | some z => if z = -1 then umap Z k else (umap Z k).put (ikey z) (.lit (.int .i64 (((Z.take k).count z : Nat) + 1 : Int)))
    | none => umap Z k
theorem umap_succ {Z : List Int} {k : Nat} {z : Int} (hz : Z[k]? = some z) (h1 : z ≠ -1) : umap Z (k + 1) = (umap Z k).put (ikey z) (.lit (.int .i64 (((Z.take k).count z : Nat) + 1 : Int))) := by
  show (match Z[k]? with | some z => if z = -1 then umap Z k else (umap Z k).put (ikey z) (.lit (.int .i64 (((Z.take k).count z : Nat) + 1 : Int))) | none => umap Z k) = _
  rw [hz]
  simp only [if_neg h1]
theorem umap_skip {Z : List Int} {k : Nat} {z : Int} (hz : Z[k]? = some z) (h1 : z = -1) : umap Z (k + 1) = umap Z k := by
  show (match Z[k]? with | some z => if z = -1 then umap Z k else (umap Z k).put (ikey z) (.lit (.int .i64 (((Z.take k).count z : Nat) + 1 : Int))) | none => umap Z k) = _
  rw [hz]
  simp only [if_pos h1]
theorem umap_tidy (Z : List Int) : ∀ k, k ≤ Z.length → Tidy (umap Z k)
  | 0, _ => tidy_empty
  | k + 1, hk => by
    have hz := List.getElem?_eq_getElem (l := Z) (i := k) (by omega)
    have ih := umap_tidy Z k (by omega)
    by_cases h1 : Z[k] = -1
    · rw [umap_skip hz h1]; exact ih
    · rw [umap_succ hz h1]; exact ih.put (ikey_is _) _
theorem umap_at {Z : List Int} {y : Int} (hy : y ≠ -1) : ∀ k, k ≤ Z.length → (umap Z k).atKey (ikey y) (.lit (.int .i64 0)) = .lit (.int .i64 ((Z.take k).count y : Nat))
  | 0, _ => rfl
  | k + 1, hk => by
    have hz := List.getElem?_eq_getElem (l := Z) (i := k) (by omega)
    have ih := umap_at (Z := Z) hy k (by omega)
    rw [count_snoc hz]
    by_cases h1 : Z[k] = -1
    · rw [umap_skip hz h1, ih, if_neg (by rw [h1]; exact fun e => hy e.symm), Nat.add_zero]
    · rw [umap_succ hz h1]
      by_cases h2 : Z[k] = y
      · rw [h2, atKey_put_same (umap_tidy Z k (by omega)).isMap (ikey_is _), if_pos rfl]; rfl
      · rw [atKey_put_other (fun e => h2 (ikey_inj e).symm), ih, if_neg h2, Nat.add_zero]
/-- the keys -/
theorem umap_keys {Z : List Int} : ∀ k, k ≤ Z.length → ∃ K : List Int, K.Nodup ∧ size (umap Z k) = K.length ∧ (∀ y, has (umap Z k) (ikey y) = decide (y ∈ K)) ∧ ∀ y, y ∈ K ↔ (y ∈ Z.take k ∧ y ≠ -1)
  | 0, _ => ⟨[], List.nodup_nil, rfl, fun y => by simp [umap, has], fun y => by simp⟩
  | k + 1, hk => by
    obtain ⟨K, h1, h2, h3, h4⟩ := umap_keys (Z := Z) k (by omega)
    have hz := List.getElem?_eq_getElem (l := Z) (i := k) (by omega)
    have hm : ∀ y, y ∈ Z.take (k + 1) ↔ y ∈ Z.take k ∨ y = Z[k] := by
      intro y
      rw [take_snoc hz, List.mem_append, List.mem_singleton]
    by_cases e1 : Z[k] = -1
    · rw [umap_skip hz e1]
      refine ⟨K, h1, h2, h3, fun y => ?_⟩
      rw [h4, hm]
      constructor
      · rintro ⟨a, b⟩; exact ⟨Or.inl a, b⟩
      · rintro ⟨a | a, b⟩
        · exact ⟨a, b⟩
        · rw [e1] at a; exact absurd a b
    · rw [umap_succ hz e1]
      by_cases e2 : Z[k] ∈ K
      · refine ⟨K, h1, ?_, fun y => ?_, fun y => ?_⟩
        · rw [size_put (umap_tidy Z k (by omega)), h3, if_pos (by simpa using e2), h2]
        · by_cases e3 : y = Z[k]
          · subst e3
            rw [has_put_same (umap_tidy Z k (by omega)).isMap (ikey_is _)]
            exact (decide_eq_true e2).symm
          · rw [has_put_other (fun e => e3 (ikey_inj e)), h3]
        · rw [hm]
          constructor
          · intro a; exact ⟨Or.inl ((h4 y).1 a).1, ((h4 y).1 a).2⟩
          · rintro ⟨a | a, b⟩
            · exact (h4 y).2 ⟨a, b⟩
            · rw [a]; exact e2
      · refine ⟨Z[k] :: K, List.nodup_cons.2 ⟨e2, h1⟩, ?_, fun y => ?_, fun y => ?_⟩
        · rw [size_put (umap_tidy Z k (by omega)), h3, if_neg (by simpa using e2), h2]; rfl
        · by_cases e3 : y = Z[k]
          · subst e3
            rw [has_put_same (umap_tidy Z k (by omega)).isMap (ikey_is _)]
            simp
          · rw [has_put_other (fun e => e3 (ikey_inj e)), h3]
            simp [e3]
        · rw [hm, List.mem_cons, h4]
          constructor
          · rintro (a | ⟨a, b⟩)
            · exact ⟨Or.inr a, by rw [a]; exact e1⟩
            · exact ⟨Or.inl a, b⟩
          · rintro ⟨a | a, b⟩
            · exact Or.inr ⟨a, b⟩
            · exact Or.inl a

theorem le_of_sub : ∀ (I K : List Int), I.Nodup → (∀ x ∈ I, x ∈ K) → I.length ≤ K.length
  | [], _, _, _ => Nat.zero_le _
  | x :: I, K, h1, h2 => by
    have hx := h2 x (List.mem_cons_self ..)
    have hn := List.nodup_cons.1 h1
    have := le_of_sub I (K.erase x) hn.2 (fun y hy => (List.mem_erase_of_ne (fun e => hn.1 (by rw [← e]; exact hy))).2 (h2 y (List.mem_cons_of_mem _ hy)))
    rw [List.length_erase_of_mem hx] at this
    have hp : 0 < K.length := List.length_pos_of_mem hx
    simp only [List.length_cons]
    omega
/-- lists without doubles, one within the other, of one length: the same members -/
theorem sub_of_len {I K : List Int} (h1 : I.Nodup) (h2 : ∀ x ∈ I, x ∈ K) (hl : I.length = K.length) {y : Int} (hy : y ∈ K) : y ∈ I := by
  apply Classical.byContradiction
  intro hn
  have := le_of_sub (y :: I) K (List.nodup_cons.2 ⟨hn, h1⟩) (fun x hx => by
    rcases List.mem_cons.1 hx with rfl | hx
    · exact hy
    · exact h2 x hx)
  simp only [List.length_cons] at this
  omega

theorem Try.keyI : Keyed Try.prog 3 := int_keyed Try.underlying3
theorem Try.keyZ {z : Int} (h : (Lit.int .i64 z).wf = true) : keyOf Try.prog 3 (.int .i64 z) = some (ikey z) := keyOf_int_mk Try.underlying3 h

/-- block b of w is the map of the blocks' uses -/
def UsesAt (w : World) (b : Nat) (Z : List Int) : Prop := w.ownsMap Try.prog 3 (plainElem (H := Unit) Try.prog 3) b Z.length (umap Z Z.length)

set_option maxRecDepth 100000 in
set_option maxHeartbeats 1000000 in
theorem countUses_any (v : Value) (Z : List Int) (w : World) (h : IntsAt w v Z) (hlen : Z.length ≤ 1000000) (hwf : ∀ z ∈ Z, (Lit.int .i64 z).wf = true) :
    Calls Try.prog 71 #[v] w fun e w' => ∃ b, e = .returned (.map (some b)) ∧ UsesAt w' b Z ∧ Below w.heap.size w w' := by
  obtain ⟨p, cap, rfl, hl, _, hc⟩ := h
  have HC := Lib.hid hc
  have HWF := Lib.hid hwf
  clear hc hwf
  have hmm := @run_makeMap Try.prog
  go_enter Try.func71, Try.ntmps71
  go_wp2
  go_loopw [9] (fun i wr => ∃ k : Nat, k ≤ Z.length ∧ i = .int .i64 k ∧ wr.ownsMap Try.prog 3 (plainElem (H := Unit) Try.prog 3) w.heap.size k (umap Z k) ∧ Below w.heap.size w wr) (fun i _ => Z.length - (intOf i).toNat)
  case atStart => exact ⟨0, Nat.zero_le _, rfl, World.ownsMap_made _ _ _ _, (Below.refl _ _).alloc (Nat.le_refl _) _⟩
  case round =>
    obtain ⟨k, hk, rfl, hown, hb⟩ := hrel
    by_cases hlt : k < Z.length
    · obtain ⟨z, hz⟩ : ∃ z, Z[k]? = some z := ⟨Z[k], List.getElem?_eq_getElem hlt⟩
      obtain ⟨b, off, rfl, hbl, c0⟩ := HC.out k z hz
      replace c0 := (hb.cell (p := ⟨b, _, none⟩) hbl).trans c0
      have hw := HWF.out z (List.mem_of_getElem? hz)
      have hkey := Try.keyZ hw
      by_cases h1 : z = -1
      · have hskip := umap_skip hz h1
        have HST := Lib.hid hskip
        have hd : (z != -1) = false := by simpa using h1
        clear hskip hz h1 hw hkey
        go_wp2
        go_roundw
        case rel => exact ⟨k + 1, by omega, by go_num, HST.out.symm ▸ hown.mono (Nat.le_succ k), hb⟩
        case measure => simp [intOf]; omega
      · have hstep := umap_succ hz h1
        have hat := umap_at (Z := Z) h1 k hk
        obtain ⟨n, hn⟩ : ∃ n, n = (Z.take k).count z := ⟨_, rfl⟩
        have hnk : n ≤ k := by rw [hn]; exact Nat.le_trans List.count_le_length (List.length_take_le _ _)
        rw [← hn] at hstep hat
        have hcn : ∀ c : Int, (umap Z k).atKey (ikey z) (.lit (.int .i64 0)) = .lit (.int .i64 c) → c = (n : Int) := by
          intro c hcc
          rw [hat] at hcc
          injection hcc with hcc
          injection hcc with _ hcc
          exact hcc.symm
        have HST := Lib.hid hstep
        have HCN := Lib.hid hcn
        have HN := Lib.hid hn
        have hd : (z != -1) = true := by simpa using h1
        clear hstep hz h1 hn hcn hat hw
        go_wp2_with (first
          | (at_lookup; refine wpList_lookup_own_int _ rfl _ _ 122 rfl 3 3 .i64 Try.keyI Try.underlying122 Try.underlying3 (Try.zeroI _) w.heap.size k _ rfl hown _ _ rfl hkey ?_; intro c hat hwc; obtain rfl := HCN.out c hat; clear hat hwc)
          | (at_mapUpdate; refine wpList_mapUpdate_own _ rfl _ _ _ 122 rfl 3 3 Try.keyI Try.underlying122 (plainElem (H := Unit) Try.prog 3) w.heap.size k _ rfl hown (by unfold maxLen; omega) _ _ _ rfl rfl hkey _ [] (plainElem_int Try.underlying3 (i64_wf (by omega))) ?_; intro w1 hown1 hgrow1))
        go_roundw
        case rel => exact ⟨k + 1, by omega, by go_num, HST.out.symm ▸ hown1, hb.grown hgrow1 hb.size (fun j hj => by cases hj; exact Nat.le_refl _)⟩
        case measure => simp [intOf]; omega
    · have hkl : k = Z.length := by omega
      have HK := Lib.hid hkl
      clear hkl
      go_wp2
      go_ret
      exact ⟨_, rfl, by have := HK.out; subst this; exact hown, hb⟩
end Go.Proofs.Ythjaanhkmfiajac
