/- repo.indexByData: what it returns, a map that reads as the fold of its puts; what that fold holds. Condition: at most 24 items, each with at most 48 bytes. -/
import Derived.Test.YthjaanhkmfiajacPure
import Derived.Deep.QuietTactic
import Derived.BigQuiet
import Derived.IntWalk
import Derived.Lib.Hide
import Derived.Outline
import Derived.Maps.OwnSet
namespace Go.Proofs.Ythjaanhkmfiajac
open Go.RowKit Go.Maps Go.WideMaps

def dkey (d : ByteArray) : Lit := .string d.data.toList
theorem dkey_inj {a b : ByteArray} (h : dkey a = dkey b) : a = b := by
  unfold dkey at h
  injection h with h
  exact ByteArray.ext (Array.toList_inj.1 h)
theorem dkey_is (d : ByteArray) : WideAt.IsKeyLit (dkey d) := trivial

/-- the map's datum after k rounds -/
def imap (L : List It) : Nat → DataW Unit
  | 0 => .map []
  | k + 1 => match L[k]? with
    | some x => (imap L k).put (dkey x.data) (.lit (.int .i64 (k : Int)))
    | none => imap L k
theorem imap_succ {L : List It} {k : Nat} {x : It} (hx : L[k]? = some x) : imap L (k + 1) = (imap L k).put (dkey x.data) (.lit (.int .i64 (k : Int))) := by
  show (match L[k]? with | some x => (imap L k).put (dkey x.data) (.lit (.int .i64 (k : Int))) | none => imap L k) = _
  rw [hx]
theorem imap_tidy (L : List It) : ∀ k, Tidy (imap L k)
  | 0 => tidy_empty
  | k + 1 => by
    cases hx : L[k]? with
    | none =>
      have : imap L (k + 1) = imap L k := by show (match L[k]? with | some x => _ | none => _) = _; rw [hx]
      rw [this]; exact imap_tidy L k
    | some x => rw [imap_succ hx]; exact (imap_tidy L k).put (dkey_is _) _
theorem imap_has_no {L : List It} {d : ByteArray} : ∀ k, (∀ (j : Nat) (y : It), j < k → L[j]? = some y → y.data ≠ d) → has (imap L k) (dkey d) = false
  | 0, _ => rfl
  | k + 1, h => by
    have ih := imap_has_no k (fun j y hj => h j y (by omega))
    cases hx : L[k]? with
    | none =>
      have : imap L (k + 1) = imap L k := by show (match L[k]? with | some x => _ | none => _) = _; rw [hx]
      rw [this]; exact ih
    | some x =>
      rw [imap_succ hx, has_put_other (fun e => h k x (by omega) hx (dkey_inj e).symm)]
      exact ih
theorem imap_has_yes {L : List It} {d : ByteArray} {j : Nat} {x : It} (hx : L[j]? = some x) (hd : x.data = d) : ∀ k, j < k → has (imap L k) (dkey d) = true
  | 0, h => by omega
  | k + 1, h => by
    by_cases hjk : j = k
    · subst hjk
      rw [imap_succ hx, hd]
      exact has_put_same (imap_tidy L j).isMap (dkey_is _) _
    · have ih := imap_has_yes hx hd k (by omega)
      cases hy : L[k]? with
      | none =>
        have : imap L (k + 1) = imap L k := by show (match L[k]? with | some x => _ | none => _) = _; rw [hy]
        rw [this]; exact ih
      | some y =>
        rw [imap_succ hy]
        by_cases he : dkey d = dkey y.data
        · rw [he]; exact has_put_same (imap_tidy L k).isMap (dkey_is _) _
        · rw [has_put_other he]; exact ih
/-- where the key stands, nothing later bears it -/
theorem imap_at {L : List It} {j : Nat} {x : It} (hx : L[j]? = some x) (z : DataW Unit) : ∀ k, j < k → (∀ (i : Nat) (y : It), j < i → i < k → L[i]? = some y → x.data ≠ y.data) → (imap L k).atKey (dkey x.data) z = .lit (.int .i64 (j : Int))
  | 0, h, _ => by omega
  | k + 1, h, hn => by
    by_cases hjk : j = k
    · subst hjk
      rw [imap_succ hx]
      exact atKey_put_same (imap_tidy L j).isMap (dkey_is _) _ _
    · have ih := imap_at hx z k (by omega) (fun i y h1 h2 => hn i y h1 (by omega))
      cases hy : L[k]? with
      | none =>
        have : imap L (k + 1) = imap L k := by show (match L[k]? with | some x => _ | none => _) = _; rw [hy]
        rw [this]; exact ih
      | some y =>
        rw [imap_succ hy, atKey_put_other (fun e => hn k y (by omega) (by omega) hy (dkey_inj e))]
        exact ih
theorem imap_le (L : List It) : ∀ k, size (imap L k) ≤ k
  | 0 => Nat.le_refl _
  | k + 1 => by
    have ih := imap_le L k
    cases hx : L[k]? with
    | none =>
      have : imap L (k + 1) = imap L k := by show (match L[k]? with | some x => _ | none => _) = _; rw [hx]
      rw [this]; omega
    | some x =>
      rw [imap_succ hx, size_put (imap_tidy L k)]
      split <;> omega
def Apart (L : List It) (k : Nat) : Prop := ∀ (i j : Nat) (y x : It), i < j → j < k → L[i]? = some y → L[j]? = some x → y.data ≠ x.data
theorem imap_size {L : List It} : ∀ k, k ≤ L.length → Apart L k → size (imap L k) = k
  | 0, _, _ => rfl
  | k + 1, hk, h => by
    have ih := imap_size (L := L) k (by omega) (fun i j y x h1 h2 => h i j y x h1 (by omega))
    have hx := List.getElem?_eq_getElem (l := L) (i := k) (by omega)
    rw [imap_succ hx, size_put (imap_tidy L k), imap_has_no k (fun j y hj hy => h j k y _ hj (by omega) hy hx)]
    simp [ih]
theorem imap_small {L : List It} {i j : Nat} {y x : It} (hij : i < j) (hy : L[i]? = some y) (hx : L[j]? = some x) (hd : y.data = x.data) : ∀ k, j < k → size (imap L k) < k
  | 0, h => by omega
  | k + 1, h => by
    by_cases hjk : j = k
    · subst hjk
      rw [imap_succ hx, size_put (imap_tidy L j), imap_has_yes hy hd j hij]
      have := imap_le L j
      simp; omega
    · have ih := imap_small hij hy hx hd k (by omega)
      cases hz : L[k]? with
      | none =>
        have : imap L (k + 1) = imap L k := by show (match L[k]? with | some x => _ | none => _) = _; rw [hz]
        rw [this]; omega
      | some z =>
        rw [imap_succ hz, size_put (imap_tidy L k)]
        split <;> omega

theorem Try.keyS : Keyed Try.prog 9 := string_keyed Try.underlying9
theorem Try.zeroI (w : World) : (zeroValue 3).run Try.prog w = .ok (.int .i64 0) w := by kernel_rfl
theorem Try.keyD {d : ByteArray} (h : d.size ≤ 1000000) : keyOf Try.prog 9 (.string d) = some (dkey d) := keyOf_string_mk Try.underlying9 (by unfold maxLen; omega)
theorem i64_wf {n : Int} (h : -9223372036854775808 ≤ n ∧ n ≤ 9223372036854775807) : (Lit.int .i64 n).wf = true := WalkArith.wf_i64 h

/-- block b of w is the map of the items' data -/
def IdxAt (w : World) (b : Nat) (L : List It) : Prop := w.ownsMap Try.prog 9 (plainElem (H := Unit) Try.prog 3) b L.length (imap L L.length)

set_option maxRecDepth 100000 in
theorem indexByData_any (v : Value) (L : List It) (w : World) (h : ItemsAt w v L) (hlen : L.length ≤ 24) (hsz : ∀ x ∈ L, x.data.size ≤ 48) :
    Calls Try.prog 79 #[v] w fun e w' => ∃ b, e = .returned (.map (some b)) ∧ IdxAt w' b L ∧ Below w.heap.size w w' := by
  obtain ⟨p, cap, rfl, hl, _, hc⟩ := h
  have HC := Lib.hid hc
  have hmm : ∀ (n : Int) (w : World), (Instr.makeMap 129 (some (.int .i64 n))).run Try.prog w = .ok (.map (some w.heap.size)) (w.alloc (.map #[] 0)) := by
    intro n w
    simp [Instr.makeMap, run_underlying Try.underlying129, asInt, asIntOf, newObj, Result.andThen]
    rfl
  clear hc
  go_enter Try.func79, Try.ntmps79
  go_wp2
  go_loopw [11] (fun i wr => ∃ k : Nat, k ≤ L.length ∧ i = .int .i64 k ∧ wr.ownsMap Try.prog 9 (plainElem (H := Unit) Try.prog 3) w.heap.size k (imap L k) ∧ Below w.heap.size w wr) (fun i _ => L.length - (intOf i).toNat)
  case atStart => exact ⟨0, Nat.zero_le _, rfl, World.ownsMap_made _ _ _ _, (Below.refl _ _).alloc (Nat.le_refl _) _⟩
  case round =>
    obtain ⟨k, hk, rfl, hown, hb⟩ := hrel
    by_cases hlt : k < L.length
    · obtain ⟨x, hx⟩ : ∃ x, L[k]? = some x := ⟨L[k], List.getElem?_eq_getElem hlt⟩
      obtain ⟨b, off, rfl, hbl, c0, c1, c2⟩ := HC.out k x hx
      replace c0 := (hb.cell (p := ⟨b, _, none⟩) hbl).trans c0
      replace c1 := (hb.cell (p := ⟨b, _, none⟩) hbl).trans c1
      replace c2 := (hb.cell (p := ⟨b, _, none⟩) hbl).trans c2
      have hkey := Try.keyD (d := x.data) (by have := hsz x (List.mem_of_getElem? hx); omega)
      have hstep := imap_succ hx
      have HST := Lib.hid hstep
      clear hx hstep
      go_wp2_with (at_mapUpdate; refine wpList_mapUpdate_own _ rfl _ _ _ 129 rfl 9 3 Try.keyS Try.underlying129 (plainElem (H := Unit) Try.prog 3) w.heap.size k _ rfl (hown.alloc _) (by unfold maxLen; omega) _ _ _ rfl rfl hkey _ [] (plainElem_int Try.underlying3 (i64_wf (by omega))) ?_; intro w1 hown1 hgrow1)
      go_roundw
      case rel => exact ⟨k + 1, by omega, by go_num, HST.out.symm ▸ hown1, (below_alloc hb _).grown hgrow1 (below_alloc hb _).size (fun j hj => by cases hj; exact Nat.le_refl _)⟩
      case measure => simp [intOf]; omega
    · have hkl : k = L.length := by omega
      have HK := Lib.hid hkl
      clear hkl
      go_wp2
      go_ret
      exact ⟨_, rfl, by have := HK.out; subst this; exact hown, hb⟩
end Go.Proofs.Ythjaanhkmfiajac
