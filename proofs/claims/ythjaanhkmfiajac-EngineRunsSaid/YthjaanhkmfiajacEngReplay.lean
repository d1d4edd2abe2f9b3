/- Package engine: replay: the volume behind transactions that could be applied one by one. Condition: they could. -/
import Derived.Test.YthjaanhkmfiajacEngMem
import Derived.Test.YthjaanhkmfiajacVolCopy
import Derived.Test.YthjaanhkmfiajacApplyCode
namespace Go.Proofs.Ythjaanhkmfiajac
open Go.RowKit LM EM

/-- block b is a box of a volume's two slices -/
def VBox (w : World) (b : Nat) (x y : Value) : Prop := w.heap[b]? = some (.cells #[x, y] 27 (0, 0))
theorem VBox.lt {w : World} {b : Nat} {x y : Value} (h : VBox w b x y) : b < w.heap.size := (Array.getElem?_eq_some_iff.1 h).1
theorem VBox.at {w : World} {b : Nat} {x y : Value} (h : VBox w b x y) : w.cell? ⟨b, 0, none⟩ = some x ∧ w.cell? ⟨b, 1, none⟩ = some y ∧ w.frozen? ⟨b, 0, none⟩ = false ∧ w.frozen? ⟨b, 1, none⟩ = false := by
  unfold VBox at h
  refine ⟨?_, ?_, ?_, ?_⟩ <;> simp [World.cell?, World.frozen?, h]
theorem VBox.keep {w w' : World} {b : Nat} {x y : Value} (h : VBox w b x y) (hb : Below w.heap.size w w') : VBox w' b x y := (hb.block b h.lt).trans h
theorem VBox.new (w : World) (x y : Value) : VBox (w.alloc (.cells #[x, y] 27)) w.heap.size x y := by
  show (w.heap.push _)[w.heap.size]? = _
  simp
theorem VBox.set {w : World} {b : Nat} {x y : Value} (h : VBox w b x y) (x' y' : Value) : VBox ((w.setCell ⟨b, 0, none⟩ x').setCell ⟨b, 1, none⟩ y') b x' y' := by
  unfold VBox at h ⊢
  simp only [World.setCell, Array.getElem?_modify, if_true, h, Option.map_some]
  simp
theorem VolTy.box {w : World} {vi vb : Value} {V : Vol} (h : VolTy w vi vb V) {b : Nat} {x y : Value} (hb : VBox w b x y) (x' y' : Value) : VolTy ((w.setCell ⟨b, 0, none⟩ x').setCell ⟨b, 1, none⟩ y') vi vb V :=
  h.of (by simp [World.setCell]) (fun k cur T fr hk hT => by
    have hne : k ≠ b := by
      intro e
      subst e
      unfold VBox at hb
      rw [hb] at hk
      simp only [Option.some.injEq, Obj.cells.injEq] at hk
      rcases hT with rfl | rfl
      · exact absurd hk.2.1 (by decide)
      · exact absurd hk.2.1 (by decide)
    rw [Below.heap_setCell _ _ _ _ hne, Below.heap_setCell _ _ _ _ hne])
theorem VolTy.slices {w : World} {vi vb : Value} {V : Vol} (h : VolTy w vi vb V) : ∃ p c q d, vi = .slice p V.items.length c ∧ vb = .slice q V.blocks.length d := by
  obtain ⟨⟨p, c, h1, _⟩, ⟨q, d, h2, _⟩, _, _⟩ := h
  exact ⟨p, c, q, d, h1, h2⟩

/-- the state of replay's loop -/
def RepSt (w : World) (G4 G6 : Nat) (V : Vol) (D : List (List Wr)) (k : Nat) (wr : World) : Prop :=
  ∃ p c q d, VBox wr G6 (.slice p (after V (D.take k)).items.length c) (.slice q (after V (D.take k)).blocks.length d) ∧ VolTy wr (.slice p (after V (D.take k)).items.length c) (.slice q (after V (D.take k)).blocks.length d) (after V (D.take k)) ∧ VBox wr G4 (.slice none 0 0) (.slice none 0 0) ∧ Below w.heap.size w wr
/-- what replay returns -/
def ReplayRet (V : Vol) (D : List (List Wr)) (w : World) (e : Ending) (w' : World) : Prop := ∃ x y, e = .returned (.tuple #[.agg #[x, y], .int .i64 0]) ∧ VolTy w' x y (after V D) ∧ Below w.heap.size w w'

set_option maxRecDepth 100000 in
set_option maxHeartbeats 2000000 in
theorem replay_any (a b u : Value) (V : Vol) (D : List (List Wr)) (w : World) (h : VolTy w a b V) (hu : DealsAt w u D) (hv : VOk V) (hD : AllOk V D) :
    Calls Try.prog 41 #[.agg #[a, b], u] w (ReplayRet V D w) := by
  obtain ⟨pu, cu, rfl, hul, _, hcell⟩ := hu
  have hbx : Below w.heap.size w ((w.alloc (.cells #[a, b] 27)).alloc (.cells #[.slice none 0 0, .slice none 0 0] 27)) := below_alloc (below_alloc (Below.refl _ _) _) _
  have hsm := hv.small
  obtain ⟨pa, ca, pb, cb, rfl, rfl⟩ := h.slices
  have hcp := VCopy_any _ V _ (h.keep hbx).at (by omega) (by omega)
  have HH := Lib.hid h
  have HCP := Lib.hid hcp
  have HC := Lib.hid hcell
  have HV := Lib.hid hv
  have HD := Lib.hid hD
  clear h hcp hcell hv hD
  go_enter Try.func41, Try.ntmps41
  go_upto_region 2 with (go_at_call 9; refine HCP.out.mono ?_; rintro e w1 ⟨ci, cz, rfl, ho⟩; obtain ⟨pi, ki, rfl⟩ := ho.1.isSlice; obtain ⟨pz, kz, rfl⟩ := ho.2.1.isSlice)
  obtain ⟨G6, hG6⟩ : ∃ G, G = w1.heap.size := ⟨_, rfl⟩
  obtain ⟨W1, hW1⟩ : ∃ W, W = w1.alloc (.cells #[.slice pi V.items.length ki, .slice pz V.blocks.length kz] 27) := ⟨_, rfl⟩
  have hst : RepSt w (w.heap.size + 1) G6 V D 0 W1 := by
    refine ⟨pi, ki, pz, kz, ?_, ?_, ?_, ?_⟩
    · rw [hW1, hG6]; exact VBox.new _ _ _
    · rw [hW1]; exact (ho.ty (by omega) (by omega)).keep (below_alloc (Below.refl _ _) _)
    · have h0 := VBox.new (w.alloc (.cells #[.slice pa V.items.length ca, .slice pb V.blocks.length cb] 27)) (.slice none 0 0) (.slice none 0 0)
      rw [show (w.alloc (.cells #[.slice pa V.items.length ca, .slice pb V.blocks.length cb] 27)).heap.size = w.heap.size + 1 by simp] at h0
      rw [hW1]
      exact (h0.keep ho.below).keep (below_alloc (Below.refl _ _) _)
    · rw [hW1]; exact below_alloc (hbx.trans (ho.below.mono (by simp; omega))) _
  rw [← hG6, ← hW1]
  have hG46 : w.heap.size + 1 < G6 := by
    rw [hG6]
    have := ho.below.size
    simp at this
    omega
  have HST := Lib.hid hst
  have hG6w : w.heap.size ≤ G6 := by omega
  clear hst hW1 hG6 ho HCP hbx HH
  go_wp2
  go_loopw [15] (fun i wr => ∃ k : Nat, k ≤ D.length ∧ i = .int .i64 (k : Int) ∧ Hid (RepSt w (w.heap.size + 1) G6 V D k wr)) (fun i _ => D.length - (intOf i).toNat)
  case atStart => exact ⟨0, Nat.zero_le _, rfl, HST⟩
  case round =>
    clear HST
    obtain ⟨k, hk, rfl, HR⟩ := hrel
    obtain ⟨p, c, q, d, hb6, hty, hb4, hb⟩ := HR.out
    obtain ⟨c0, c1, f0, f1⟩ := hb6.at
    have hl6 := hb6.lt
    have hVk := (AllOk.ok (D := D.take k) HV.out (HD.out.take k)).1
    obtain ⟨Vk, hVk'⟩ : ∃ X, X = after V (D.take k) := ⟨_, rfl⟩
    rw [← hVk'] at hb6 hty c0 c1 hVk
    have HB6 := Lib.hid hb6
    have HTY := Lib.hid hty
    have HB4 := Lib.hid hb4
    have HB := Lib.hid hb
    have HVK := Lib.hid hVk'
    clear hb6 hty hb4 HR hVk'
    by_cases hlt : k < D.length
    · obtain ⟨W, hW⟩ : ∃ W, D[k]? = some W := ⟨_, List.getElem?_eq_getElem hlt⟩
      obtain ⟨gu, off, uw, rfl, hgl, d0, hwr⟩ := HC.out k W hW
      replace d0 := (hb.cell (p := ⟨gu, _, none⟩) hgl).trans d0
      have h0 : (applied Vk W).2 = 0 := by rw [HVK.out]; exact HD.out.at hW
      have hap := VApply_any _ uw Vk W wr HTY.out.at hVk.wideZ (hwr.keep hb)
      rw [h0] at hap
      have hnew := (apply_valid hVk h0).1.small
      have hstep : after V (D.take (k + 1)) = (applied Vk W).1 := by rw [take_snoc hW, after_snoc, HVK.out]
      obtain ⟨Vn, hVn⟩ : ∃ X, X = (applied Vk W).1 := ⟨_, rfl⟩
      rw [← hVn] at hap hnew hstep
      have HAP := Lib.hid hap
      have HS := Lib.hid hstep
      obtain ⟨pw, cw, rfl, _⟩ := hwr
      clear hap hstep hW h0 hVn hVk
      go_wp2_with (go_at_call 38; refine HAP.out.mono ?_; rintro e w2 ⟨vi, vz, rfl, ho⟩; obtain ⟨pi, ki, rfl⟩ := ho.1.isSlice; obtain ⟨pz, kz, rfl⟩ := ho.2.1.isSlice; have e6 := ((HB6.out.keep ho.below).keep (below_alloc (Below.refl _ _) (.cells #[.slice pi Vn.items.length ki, .slice pz Vn.blocks.length kz] 27))).at; obtain ⟨e60, e61, e62, e63⟩ := e6; have HO := Lib.hid ho; clear ho)
      go_roundw
      case rel =>
        have hbx2 := below_alloc (Below.refl w2.heap.size w2) (.cells #[.slice pi Vn.items.length ki, .slice pz Vn.blocks.length kz] 27)
        have b6 := (HB6.out.keep HO.out.below).keep hbx2
        have b4 := (HB4.out.keep HO.out.below).keep hbx2
        have ht := (HO.out.ty (by omega) (by omega)).keep hbx2
        have hbb := below_then HB.out (below_then HO.out.below hbx2)
        refine ⟨k + 1, by omega, by go_num, Lib.hid ?_⟩
        unfold RepSt
        rw [HS.out]
        refine ⟨pi, ki, pz, kz, b6.set _ _, ht.box b6 _ _, ?_, (hbb.setCell (p := ⟨G6, 0, none⟩) hG6w _).setCell (p := ⟨G6, 1, none⟩) hG6w _⟩
        unfold VBox at b4 ⊢
        rw [Below.heap_setCell _ _ _ _ (by show w.heap.size + 1 ≠ G6; omega), Below.heap_setCell _ _ _ _ (by show w.heap.size + 1 ≠ G6; omega)]
        exact b4
      case measure => simp [intOf]; omega
    · have hkl : k = D.length := by omega
      have HV2 := HVK.out
      rw [hkl, List.take_length] at HV2
      have HVV := Lib.hid HV2
      obtain ⟨e40, e41, e42, e43⟩ := HB4.out.at
      clear HV2 hkl HVK
      go_wp2
      have hfin : VolTy ((wr.setCell ⟨w.heap.size + 1, 0, none⟩ (.slice p Vk.items.length c)).setCell ⟨w.heap.size + 1, 1, none⟩ (.slice q Vk.blocks.length d)) (.slice p Vk.items.length c) (.slice q Vk.blocks.length d) (after V D) := by
        rw [← HVV.out]
        exact HTY.out.box HB4.out _ _
      exact bodyPost_ret (v := .tuple #[.agg #[.slice p Vk.items.length c, .slice q Vk.blocks.length d], .int .i64 0]) (by simp [results, Try.results41, go_sem, e40, e41]) rfl
        ⟨_, _, rfl, hfin, (HB.out.setCell (p := ⟨w.heap.size + 1, 0, none⟩) (Nat.le_succ _) _).setCell (p := ⟨w.heap.size + 1, 1, none⟩) (Nat.le_succ _) _⟩
end Go.Proofs.Ythjaanhkmfiajac
