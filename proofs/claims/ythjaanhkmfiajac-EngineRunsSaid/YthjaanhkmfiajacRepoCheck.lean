/- repo.withinLimits and repo.Check: what they return. Condition: none but that the slice is one of items. -/
import Derived.Test.YthjaanhkmfiajacRepoMap
namespace Go.Proofs.Ythjaanhkmfiajac
open Go.RowKit Go.Maps

set_option maxRecDepth 100000 in
theorem withinLimits_any (x : It) (w : World) :
    Calls Try.prog 78 #[.agg #[.int .i64 x.id, .string x.data, .int .i64 x.refs]] w fun e w' => e = .returned (.bool (okB x)) ∧ Below w.heap.size w w' := by
  obtain ⟨r, hr⟩ : ∃ r, r = okB x := ⟨_, rfl⟩
  rw [← hr]
  have HR := Lib.hid hr
  clear hr
  by_cases h1 : 0 ≤ x.id
  · by_cases h2 : x.id < 24
    · by_cases h3 : x.data.size ≤ 48
      · by_cases h4 : 1 ≤ x.refs
        · by_cases h5 : x.refs ≤ 32
          · go_enter Try.func78, Try.ntmps78
            go_wp2
            go_ret
            exact ⟨ret_bool (by rw [HR.out]; simp [okB]; omega), below_alloc (Below.refl _ _) _⟩
          · go_enter Try.func78, Try.ntmps78
            go_wp2
            go_ret
            exact ⟨ret_bool (by rw [HR.out]; simp [okB]; omega), below_alloc (Below.refl _ _) _⟩
        · go_enter Try.func78, Try.ntmps78
          go_wp2
          go_ret
          exact ⟨ret_bool (by rw [HR.out]; simp [okB]; omega), below_alloc (Below.refl _ _) _⟩
      · go_enter Try.func78, Try.ntmps78
        go_wp2
        go_ret
        exact ⟨ret_bool (by rw [HR.out]; simp [okB]; omega), below_alloc (Below.refl _ _) _⟩
    · go_enter Try.func78, Try.ntmps78
      go_wp2
      go_ret
      exact ⟨ret_bool (by rw [HR.out]; simp [okB]; omega), below_alloc (Below.refl _ _) _⟩
  · go_enter Try.func78, Try.ntmps78
    go_wp2
    go_ret
    exact ⟨ret_bool (by rw [HR.out]; simp [okB]; omega), below_alloc (Below.refl _ _) _⟩

/-- the error's number of Check -/
def chk (L : List It) : Int := if mayB L then 0 else 7

/-- what the first k items' round has found: the last id, ids rise -/
def Rise (L : List It) (k : Nat) (l : Int) : Prop :=
  ((k = 0 ∧ l = -1) ∨ ∃ y, 0 < k ∧ L[k - 1]? = some y ∧ l = y.id) ∧ (∀ (i : Nat) (y : It), i < k → L[i]? = some y → y.id ≤ l) ∧
  ∀ (i j : Nat) (y x : It), i < j → j < k → L[i]? = some y → L[j]? = some x → y.id < x.id
theorem Rise.start (L : List It) : Rise L 0 (-1) := ⟨.inl ⟨rfl, rfl⟩, fun _ _ h => absurd h (by omega), fun _ j _ _ _ h => absurd h (by omega)⟩
theorem Rise.more {L : List It} {k : Nat} {l : Int} {x : It} (h : Rise L k l) (hx : L[k]? = some x) (hlt : l < x.id) : Rise L (k + 1) x.id := by
  obtain ⟨_, h2, h3⟩ := h
  refine ⟨.inr ⟨x, by omega, by simpa using hx, rfl⟩, fun i y hi hy => ?_, fun i j y z hij hj hy hz => ?_⟩
  · by_cases hik : i < k
    · have := h2 i y hik hy; omega
    · obtain rfl : i = k := by omega
      rw [hx] at hy; cases hy; exact Int.le_refl _
  · by_cases hjk : j < k
    · exact h3 i j y z hij hjk hy hz
    · obtain rfl : j = k := by omega
      rw [hx] at hz; cases hz
      have := h2 i y hij hy; omega
theorem Rise.bad {L : List It} {k : Nat} {l : Int} {x : It} (h : Rise L k l) (hx : L[k]? = some x) (hok : okB x = true) (hle : x.id ≤ l) : mayB L = false := by
  obtain ⟨h1, _, _⟩ := h
  rcases h1 with ⟨rfl, rfl⟩ | ⟨y, hk, hy, rfl⟩
  · simp only [okB, Bool.and_eq_true, decide_eq_true_eq] at hok
    omega
  · exact may_pair hx hy (by omega) (fun h => by have := h.1; omega)
theorem Rise.fine {L : List It} {l : Int} (h : Rise L L.length l) (hA : MayA L L.length) (hlen : L.length ≤ 24) (hD : Apart L L.length) : mayB L = true := by
  rw [may_all hA (fun i j y x hij hj hy hx => ⟨h.2.2 i j y x hij hj hy hx, hD i j y x hij hj hy hx⟩)]
  simpa using hlen
theorem Apart.may {L : List It} (h : mayB L = true) : Apart L L.length := by
  intro i j y x hij hj hy hx hd
  rw [may_pair hx hy hij (fun h => h.2 hd)] at h
  cases h
theorem Apart.no {L : List It} (h : ¬ Apart L L.length) : (∃ (i j : Nat) (y x : It), i < j ∧ j < L.length ∧ L[i]? = some y ∧ L[j]? = some x ∧ y.data = x.data) := by
  apply Classical.byContradiction
  intro hn
  apply h
  intro i j y x hij hj hy hx hd
  exact hn ⟨i, j, y, x, hij, hj, hy, hx, hd⟩

set_option maxRecDepth 100000 in
set_option maxHeartbeats 1000000 in
theorem Check_any (v : Value) (L : List It) (w : World) (h : ItemsAt w v L) :
    Calls Try.prog 70 #[v] w fun e w' => e = .returned (.int .i64 (chk L)) ∧ Below w.heap.size w w' := by
  have h' := h
  obtain ⟨p, cap, rfl, hl, _, hc⟩ := h'
  have HI := Lib.hid h
  have HC := Lib.hid hc
  clear hc h
  by_cases h24 : 24 < L.length
  · have hr : chk L = 7 := by
      unfold chk
      rw [if_neg]
      intro h
      have := may_len h
      omega
    have HR := Lib.hid hr
    clear hr
    go_enter Try.func70, Try.ntmps70
    go_wp2
    go_ret
    exact ⟨ret_int HR.out.symm, Below.refl _ _⟩
  · go_enter Try.func70, Try.ntmps70
    go_wp2
    go_loopw [3, 11] (fun l i wr => ∃ (k : Nat) (li : Int), k ≤ L.length ∧ i = .int .i64 k ∧ l = .int .i64 li ∧ MayA L k ∧ Rise L k li ∧ Below w.heap.size w wr) (fun _ i _ => L.length - (intOf i).toNat)
    case atStart => exact ⟨0, -1, Nat.zero_le _, rfl, rfl, fun j y hj => absurd hj (by omega), Rise.start L, Below.refl _ _⟩
    case round =>
      obtain ⟨k, li, hk, rfl, rfl, hA, hB, hb⟩ := hrel
      have HA := Lib.hid hA
      have HB := Lib.hid hB
      clear hA hB
      by_cases hlt : k < L.length
      · obtain ⟨x, hx⟩ : ∃ x, L[k]? = some x := ⟨L[k], List.getElem?_eq_getElem hlt⟩
        obtain ⟨b, off, rfl, hbl, c0, c1, c2⟩ := HC.out k x hx
        replace c0 := (hb.cell (p := ⟨b, _, none⟩) hbl).trans c0
        replace c1 := (hb.cell (p := ⟨b, _, none⟩) hbl).trans c1
        replace c2 := (hb.cell (p := ⟨b, _, none⟩) hbl).trans c2
        have HX := Lib.hid hx
        clear hx
        cases hok : okB x with
        | false =>
          have hr : chk L = 7 := by unfold chk; rw [may_item HX.out hok]; rfl
          have HR := Lib.hid hr
          have HOK := Lib.hid hok
          clear hr hok
          go_wp2_with (go_at_call 78; refine (withinLimits_any x _).mono ?_; rw [HOK.out]; rintro e w1 ⟨rfl, hb1⟩; obtain ⟨q0, q1, q2, f0, f1, f2, hz⟩ := blk3 hb1)
          go_ret
          exact ⟨ret_int HR.out.symm, below_then (below_alloc hb _) hb1⟩
        | true =>
          have HOK := Lib.hid hok
          by_cases hle : x.id ≤ li
          · have hr : chk L = 7 := by unfold chk; rw [HB.out.bad HX.out hok hle]; rfl
            have HR := Lib.hid hr
            have hd : decide (x.id ≤ li) = true := by simpa using hle
            clear hr hok hle
            go_wp2_with (go_at_call 78; refine (withinLimits_any x _).mono ?_; rw [HOK.out]; rintro e w1 ⟨rfl, hb1⟩; obtain ⟨q0, q1, q2, f0, f1, f2, hz⟩ := blk3 hb1)
            go_ret
            exact ⟨ret_int HR.out.symm, below_then (below_alloc hb _) hb1⟩
          · have hd : decide (x.id ≤ li) = false := by simpa using hle
            have hr := HB.out.more HX.out (by omega)
            have HR := Lib.hid hr
            clear hr hok hle
            go_wp2_with (go_at_call 78; refine (withinLimits_any x _).mono ?_; rw [HOK.out]; rintro e w1 ⟨rfl, hb1⟩; obtain ⟨q0, q1, q2, f0, f1, f2, hz⟩ := blk3 hb1)
            go_roundw
            case rel => exact ⟨k + 1, x.id, by omega, by go_num, rfl, MayA.more HA.out HX.out HOK.out, HR.out, below_then (below_alloc hb _) hb1⟩
            case measure => simp [intOf]; omega
      · have hkl : k = L.length := by omega
        have hA' : MayA L L.length := hkl ▸ HA.out
        have hB' : Rise L L.length li := hkl ▸ HB.out
        have HSZ : ∀ x ∈ L, x.data.size ≤ 48 := by
          intro x hx
          obtain ⟨j, hj⟩ := List.getElem?_of_mem hx
          have := hA' j x (List.getElem?_eq_some_iff.1 hj).1 hj
          simp only [okB, Bool.and_eq_true, decide_eq_true_eq] at this
          omega
        by_cases hD : Apart L L.length
        · have hr : chk L = 0 := by unfold chk; rw [hB'.fine hA' (by omega) hD]; rfl
          have hs : (Maps.size (imap L L.length)) = L.length := imap_size _ (Nat.le_refl _) hD
          have HS := Lib.hid hs
          have HR := Lib.hid hr
          have HSZ := Lib.hid HSZ
          clear hr hs hA' hB' hkl hD
          go_wp2_with (first
            | (go_at_call 79; refine (indexByData_any _ L _ (HI.out.keep hb) (by omega) HSZ.out).mono ?_; rintro e w1 ⟨bm, rfl, hm, hb1⟩)
            | (at_len; refine wpList_len_own _ rfl _ 129 rfl 9 3 Try.underlying129 _ bm L.length _ rfl hm ?_; rw [HS.out]))
          go_ret
          exact ⟨ret_int HR.out.symm, below_then hb hb1⟩
        · obtain ⟨i, j, y, x, hij, hj, hy, hx, hd⟩ := Apart.no hD
          have hr : chk L = 7 := by unfold chk; rw [may_pair hx hy hij (fun h => h.2 hd)]; rfl
          obtain ⟨m, hm0⟩ : ∃ m, m = Maps.size (imap L L.length) := ⟨_, rfl⟩
          have hs : m < L.length := hm0 ▸ imap_small hij hy hx hd _ hj
          have HS := Lib.hid hm0
          have HR := Lib.hid hr
          have HSZ := Lib.hid HSZ
          clear hr hm0 hA' hB' hkl hD hy hx hd
          go_wp2_with (first
            | (go_at_call 79; refine (indexByData_any _ L _ (HI.out.keep hb) (by omega) HSZ.out).mono ?_; rintro e w1 ⟨bm, rfl, hm, hb1⟩)
            | (at_len; refine wpList_len_own _ rfl _ 129 rfl 9 3 Try.underlying129 _ bm L.length _ rfl hm ?_; rw [← HS.out]))
          go_ret
          exact ⟨ret_int HR.out.symm, below_then hb hb1⟩
end Go.Proofs.Ythjaanhkmfiajac
