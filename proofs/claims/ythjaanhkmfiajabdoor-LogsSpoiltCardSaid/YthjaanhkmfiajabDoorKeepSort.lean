/- slices.SortFunc of at most twelve writes by their blocks, as the statements' Writes calls it: by the shelf's contract at structs. Condition: blocks from 0 to 1000. -/
import Derived.Test.YthjaanhkmfiajabDoorWritesOwn
import Derived.Test.YthjaanhkmfiajabDoorShelf
import Derived.Test.YthjaanhkmfiajabDoorStruct
import Derived.Lib.OwnBridge
namespace Go.Proofs.YthjaanhkmfiajabDoor
open Go.RowKit Go.Sort Go.Shelf

set_option maxRecDepth 100000 in
theorem wcmp_any (x y : Wr) (hx : 0 ≤ x.block ∧ x.block ≤ 1000) (hy : 0 ≤ y.block ∧ y.block ≤ 1000) (w : World) :
    Calls Tryd.prog 42 #[.agg #[.int .i64 x.block, .string x.data], .agg #[.int .i64 y.block, .string y.data]] w fun e w' => e = .returned (.int .i64 (x.block - y.block)) ∧ ∃ q os', w' = grow (w.drewN q) os' := by
  have hw := IntWalk.i64_in (x.block - y.block) (by omega)
  go_enter Tryd.func42, Tryd.ntmps42
  go_wp2
  go_ret
  refine ⟨rfl, 0, #[.cells #[.int .i64 x.block, .string x.data] 48, .cells #[.int .i64 y.block, .string y.data] 48], ?_⟩
  rfl

theorem below_grown (w : World) (n : Nat) (os : Array Obj) : RowKit.Below w.heap.size w (grow (w.drewN n) os) := by
  refine ⟨rfl, rfl, rfl, ?_, fun k hk => ?_⟩
  · show w.heap.size ≤ (w.heap ++ os).size
    simp
  · show (w.heap ++ os)[k]? = _
    rw [Array.getElem?_append_left hk]

/-- a write whose block lies from 0 to 1000 -/
abbrev Sw := { x : Wr // 0 ≤ x.block ∧ x.block ≤ 1000 }
instance : Inhabited Sw := ⟨⟨⟨0, ⟨#[]⟩⟩, by decide⟩⟩
def encSw (x : Sw) : List Value := [.int .i64 x.1.block, .string x.1.data]
def cfSw (x y : Sw) : Int := x.1.block - y.1.block
theorem ltSw (x y : Sw) : ltOf cfSw x y = decide (x.1.block < y.1.block) := by
  unfold ltOf cfSw
  by_cases h : x.1.block < y.1.block
  · rw [decide_eq_true h, decide_eq_true (by omega)]
  · rw [decide_eq_false h, decide_eq_false (by omega)]
theorem swoSw : SWO (ltOf cfSw) where
  irrefl x := by rw [ltSw]; simp
  trans x y z h1 h2 := by rw [ltSw, decide_eq_true_eq] at *; omega
  ntrans x y z h1 h2 := by rw [ltSw, decide_eq_false_iff_not] at *; omega
def Small (L : List Wr) : Prop := ∀ x ∈ L, 0 ≤ x.block ∧ x.block ≤ 1000
def smalls : (L : List Wr) → Small L → List Sw
  | [], _ => []
  | x :: L, h => ⟨x, h x (by simp)⟩ :: smalls L (fun y hy => h y (by simp [hy]))
theorem smalls_map : ∀ (L : List Wr) (h : Small L), (smalls L h).map (·.1) = L
  | [], _ => rfl
  | x :: L, _ => congrArg (x :: ·) (smalls_map L _)
theorem wcells_get : ∀ (L : List Sw) (t : Nat), t < L.length * 2 → (wcells (L.map (·.1)))[t]? = some ((encSw L[t / 2]!)[t % 2]!)
  | [], t, h => by simp at h
  | x :: L, 0, _ => rfl
  | x :: L, 1, _ => rfl
  | x :: L, t + 2, h => by
    have := wcells_get L t (by simp at h; omega)
    rw [show (t + 2) / 2 = t / 2 + 1 by omega, show (t + 2) % 2 = t % 2 by omega]
    simpa [wcells] using this
theorem flat_wcells (L : List Sw) : flatK encSw 2 L.toArray = (wcells (L.map (·.1))).toArray := by
  apply Array.ext_getElem?
  intro t
  have e0 : (wcells (L.map (·.1))).toArray[t]? = (wcells (L.map (·.1)))[t]? := List.getElem?_toArray
  rw [e0]
  by_cases ht : t < L.length * 2
  · rw [wcells_get L t ht]
    have h1 := get_flatK encSw 2 L.toArray t (by simpa using ht)
    rw [getElem!_pos _ t (by rw [size_flatK]; simpa using ht)] at h1
    rw [Array.getElem?_eq_getElem (by rw [size_flatK]; simpa using ht), h1]
    simp
  · rw [Array.getElem?_eq_none (by rw [size_flatK]; simp; omega), List.getElem?_eq_none (by rw [wcells_length]; simp; omega)]

theorem OwnW.holds {B g cap n : Nat} {e : TypeId} {L : List Sw} {W0 w : World} (h : OwnW B e (.slice (some ⟨g, 0, none⟩) n cap) (L.map (·.1)) W0 w) : HoldsK encSw 2 w g 0 L.toArray := by
  intro t ht
  rw [size_flatK] at ht
  have ht' : t < L.length * 2 := by simpa using ht
  rw [get_flatK _ _ _ _ ht]
  have hnL : n = (L.map (·.1)).length := by
    rcases h.1.2 with ⟨h', _⟩ | ⟨g', cap', cur, h', _⟩
    · cases h'
    · cases h'; rfl
  have hlm : (L.map (·.1)).length = L.length := List.length_map _
  have h1 := h.1
  rw [hlm] at h1
  rw [hlm] at hnL
  subst hnL
  have c := h1.cellAt t ht'
  rw [wcells_get L t ht'] at c
  refine ⟨?_, h1.frozenAt _⟩
  rw [Nat.zero_add, c]
  simp

theorem OwnW.put {B g cap n q : Nat} {e : TypeId} {L L' : List Wr} {W0 w : World} (h : OwnW B e (.slice (some ⟨g, 0, none⟩) n cap) L W0 w) (hl : L'.length = L.length) :
    OwnW B e (.slice (some ⟨g, 0, none⟩) n cap) L' W0 (putRow id (Sort.ahead w q) g 0 (wcells L').toArray) := by
  obtain ⟨⟨h1, h2⟩, hb, hB⟩ := h
  rcases h2 with ⟨e0, _⟩ | ⟨g', cap', cur, e0, hbg, hg, hn, hm, hs, ht⟩
  · cases e0
  · injection e0 with e1 e2 e3
    injection e1 with e1
    injection e1 with e1
    subst e1; subst e3; subst e2
    refine ⟨⟨wcells_length _, .inr ⟨g, cap, putCells id 0 (wcells L').toArray cur, by rw [hl], hbg, ?_, by omega, hm, by simpa [putCells] using hs, ?_⟩⟩, Lib.below_putRow hb hbg, by simpa [putRow, mapBlock, Sort.ahead] using hB⟩
    · simp [putRow, mapBlock, Sort.ahead, Array.getElem?_modify, hg, onCells]
    · apply List.ext_getElem?
      intro j
      rw [List.getElem?_take, Array.getElem?_toList]
      by_cases hj : j < L'.length * 2
      · have hjc : j < cur.size := by omega
        have hjw : j < (wcells L').length := by rw [wcells_length]; exact hj
        simp only [if_pos hj, putCells, Array.getElem?_mapIdx, Array.getElem?_eq_getElem hjc, Option.map_some]
        rw [if_pos (by simp; omega), List.getElem?_eq_getElem hjw]
        simp [getElem!_pos, hjw]
      · rw [if_neg hj, List.getElem?_eq_none (by rw [wcells_length]; omega)]

theorem OwnW.lt {B g cap n : Nat} {e : TypeId} {L : List Wr} {W0 w : World} (h : OwnW B e (.slice (some ⟨g, 0, none⟩) n cap) L W0 w) : g < w.heap.size := (h.1.lt g rfl).2

theorem hlenW (n : Nat) (W : World) (h : n ≤ 12) : Calls Tryd.prog 68 #[.int .u64 n] W fun e w' => (∃ l : Int, e = .returned (.int .i64 l)) ∧ w' = W :=
  (Tryd.bits_Len n W (by omega) (by omega)).mono fun _ _ ⟨he, hw⟩ => ⟨⟨_, he⟩, hw⟩

/-- sorted by block: the row bears a permutation of what it bore -/
theorem sort_any (B g cap n : Nat) (L : List Wr) (W0 w : World) (h : OwnW B 48 (.slice (some ⟨g, 0, none⟩) n cap) L W0 w) (hn : n = L.length) (h12 : L.length ≤ 12) (hs : Small L) :
    Calls Tryd.prog 41 #[.slice (some ⟨g, 0, none⟩) n cap, .func (.func 42) #[] #[]] w fun e w' => e = .returned (.tuple #[]) ∧ ∃ L', L'.Perm L ∧ L'.Pairwise (fun x y => x.block ≤ y.block) ∧ OwnW B 48 (.slice (some ⟨g, 0, none⟩) n cap) L' W0 w' := by
  subst hn
  have eg : ∀ args w, (callFunc 42 args).run Tryd.prog w = .ok (.enter 42 args) w := enters_of Tryd.func42 (by kernel_rfl) rfl
  have hm := smalls_map L hs
  have hL : (smalls L hs).length = L.length := by rw [← List.length_map (f := (·.1)), hm]
  have h0 : OwnW B 48 (.slice (some ⟨g, 0, none⟩) L.length cap) ((smalls L hs).map (·.1)) W0 w := by rw [hm]; exact h
  have hcon := AnyQ.slices_SortFunc_small_sorted Tryd.sortW 2 Tryd.isAgg48 Tryd.sizeOf48 encSw (fun _ => rfl) (fun x v hv => by simp [encSw] at hv; rcases hv with rfl | rfl <;> rfl) cfSw 42 #[] swoSw g 0 cap (smalls L hs).toArray w eg
    (fun m os dk hdk x y => wcmp_any x.1 y.1 x.2 y.2 _) h0.holds h.lt (by simpa [hL] using h12) hlenW
  rw [show ((smalls L hs).toArray.size) = L.length by simpa using hL] at hcon
  refine hcon.mono ?_
  rintro e w' ⟨rfl, d', q, os, hp, hsd, rfl⟩
  have hds : d'.size = L.length := by rw [hp.1]; simpa using hL
  have hpm : d'.toList.Perm (smalls L hs) := by
    have h1 := hp.2.2
    rw [← hds] at h1
    have e1 : d'.extract 0 d'.size = d' := by simp
    have e2 : (smalls L hs).toArray.extract 0 d'.size = (smalls L hs).toArray := by rw [hp.1]; simp
    rw [e1, e2] at h1
    exact h1
  have hp1 : (d'.toList.map (·.1)).Perm L := by
    have := hpm.map (·.1)
    rwa [hm] at this
  refine ⟨rfl, d'.toList.map (·.1), hp1, ?_, ?_⟩
  · rw [List.pairwise_map, List.pairwise_iff_getElem]
    intro i j hi hj hij
    have h1 := hsd i j (Nat.zero_le _) hij (by rw [← hds]; simpa using hj)
    rw [ltSw, decide_eq_false_iff_not] at h1
    rw [getElem!_pos d' i (by simpa using hi), getElem!_pos d' j (by simpa using hj)] at h1
    simp only [Array.getElem_toList]
    omega
  · have h2 := (h.put (q := q) (L' := d'.toList.map (·.1)) hp1.length_eq).past (below_grown _ 0 os)
    rw [← flat_wcells] at h2
    exact h2
end Go.Proofs.YthjaanhkmfiajabDoor
