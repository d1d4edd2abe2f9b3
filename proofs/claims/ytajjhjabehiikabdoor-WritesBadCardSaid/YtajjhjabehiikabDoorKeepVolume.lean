/- The statements' own Volume: a valid volume of sixteen blocks. No condition but that the numbers are ints. Over the contracts of volume.New and volume.Apply. -/
import Derived.Test.YtajjhjabehiikabDoorVolNew
import Derived.Test.YtajjhjabehiikabDoorApplyCode
import Derived.Test.YtajjhjabehiikabDoorKeepWrites
namespace Go.Proofs.YtajjhjabehiikabDoor
open Go.RowKit

theorem RawsAt.take {w : World} {p : Option Addr} {n c : Nat} {L : List Rw} (h : RawsAt w (.slice p n c) L) {m : Nat} (hm : m ≤ n) : RawsAt w (.slice p m c) (L.take m) := by
  obtain ⟨p', c', he, hl, hc, hn⟩ := h
  cases he
  have hlt : (L.take m).length = m := by rw [List.length_take]; omega
  refine ⟨p, c, by rw [hlt], by omega, hc, fun i x hx => hn i x ?_⟩
  rw [List.getElem?_take] at hx
  split at hx
  · exact hx
  · cases hx
theorem RawsAt.drop {w : World} {b off n c : Nat} {L : List Rw} (h : RawsAt w (.slice (some ⟨b, off, none⟩) n c) L) {m : Nat} (hm : m ≤ n) : RawsAt w (.slice (if c = m then some ⟨b, off, none⟩ else some ⟨b, off + m * 4, none⟩) (n - m) (c - m)) (L.drop m) := by
  obtain ⟨p', c', he, hl, hc, hn⟩ := h
  cases he
  refine ⟨_, _, by rw [List.length_drop], by rw [List.length_drop]; omega, by omega, fun i x hx => ?_⟩
  rw [List.getElem?_drop] at hx
  have hlt' := (List.getElem?_eq_some_iff.1 hx).1
  obtain ⟨b', off', hp, hlt, c0, c1, c2, c3⟩ := hn (m + i) x hx
  cases hp
  rw [if_neg (by omega)]
  refine ⟨b, off + m * 4, rfl, hlt, ?_, ?_, ?_, ?_⟩
  · rw [show off + m * 4 + i * 4 = off + (m + i) * 4 by omega]; exact c0
  · rw [show off + m * 4 + i * 4 + 1 = off + (m + i) * 4 + 1 by omega]; exact c1
  · rw [show off + m * 4 + i * 4 + 2 = off + (m + i) * 4 + 2 by omega]; exact c2
  · rw [show off + m * 4 + i * 4 + 3 = off + (m + i) * 4 + 3 by omega]; exact c3
theorem RawsAt.size {w : World} {v : Value} {L : List Rw} (h : RawsAt w v L) (hne : 0 < L.length) : ∃ b off c, v = .slice (some ⟨b, off, none⟩) L.length c ∧ L.length ≤ c ∧ c ≤ 140737488355328 := by
  obtain ⟨p, c, rfl, hl, hc, hn⟩ := h
  obtain ⟨b, off, rfl, _⟩ := hn 0 L[0] (List.getElem?_eq_getElem hne)
  exact ⟨b, off, c, rfl, hl, hc⟩
theorem RawsAt.isSlice {w : World} {v : Value} {L : List Rw} (h : RawsAt w v L) : ∃ p c, v = .slice p L.length c := by
  obtain ⟨p, c, rfl, _⟩ := h
  exact ⟨p, c, rfl⟩

def lenOf : Value → Nat
  | .slice _ n _ => n
  | _ => 0

/-- what is told of a volume of raw things -/
structure V16 (V : Vol) : Prop where
  ok : VOk V
  n : V.blocks.length = 16
  dat : ∀ x ∈ V.items, x.data.data[0]? ≠ some 110
theorem V16.new : V16 (newV 16) := ⟨new_ok (by omega), by simp [newV], fun x hx => by simp [newV] at hx⟩
theorem VOk.wide {V : Vol} (h : VOk V) : WideZ V.blocks := by
  intro z hz
  rcases h.blk z hz with rfl | ⟨x, hx, rfl⟩
  · omega
  · have := may_mem h.may hx; omega
theorem V16.step {V : Vol} (h : V16 V) {W : List Wr} (hW : WOk W 16) (hd : ∀ x ∈ W, DataOk x.data) : V16 (applied V W).1 ∧ (applied V W).2 = 0 := by
  obtain ⟨h1, h2, h3, h4⟩ := apply_ok h.ok (by rw [h.n]; omega) (W := W) (by rw [h.n]; exact hW)
  refine ⟨⟨h2, h3.trans h.n, fun x hx => ?_⟩, h1⟩
  obtain ⟨hp, b, hb, hr⟩ := (items_data h2 x.data).1 (List.mem_map.2 ⟨x, hx, rfl⟩)
  rw [h3] at hb
  rw [h4 b hb] at hr
  unfold upd at hr
  cases hf : W.find? (fun x => x.block == (b : Int)) with
  | some y =>
    rw [hf] at hr
    simp only at hr
    rw [← hr]
    exact (hd y (List.mem_of_find?_eq_some hf)).2
  | none =>
    rw [hf] at hr
    simp only at hr
    obtain ⟨y, hy, hyd⟩ := List.mem_map.1 ((items_data h.ok x.data).2 ⟨hp, b, hb, hr⟩)
    rw [← hyd]
    exact h.dat y hy
theorem V16.items {V : Vol} (h : V16 V) : V.items.length ≤ 16 := by
  have := items_le h.ok
  rw [h.n] at this
  exact this
theorem new16 : newOf 16 = (newV 16, 0) := rfl

theorem Apply16 (v u : Value) (V : Vol) (W : List Wr) (w : World) (h : VolAt w v V) (hw : WritesAt w u W) (hV : V16 V) (hW : WOk W 16) (hd : ∀ x ∈ W, DataOk x.data) :
    Calls Tryd.prog 17 #[v, u] w fun e w' => ∃ p c q d V' n m, V16 V' ∧ e = .returned (.tuple #[.agg #[.slice p n c, .slice q m d], .int .i64 0]) ∧ OwnVol w.heap.size (.slice p n c) (.slice q m d) V' w w' := by
  obtain ⟨h1, h2⟩ := hV.step hW hd
  refine (VApply_any v u V W w h hV.ok.wide hw).mono ?_
  rw [h2]
  rintro e w' ⟨vi, vb, rfl, hown⟩
  obtain ⟨pi, ci, rfl⟩ := hown.1.isSlice
  obtain ⟨pb, cb, rfl⟩ := hown.2.1.isSlice
  exact ⟨_, _, _, _, _, _, _, h1, rfl, hown⟩

/-- what the loop keeps of the world -/
structure Kept (w : World) (g : Nat) (wr : World) (vi vb : Value) (V : Vol) : Prop where
  own : OwnVol (w.heap.size + 1) vi vb V wr wr
  bel : Below w.heap.size w wr
  gw : g < wr.heap.size
  c0 : wr.cell? ⟨g, 0, none⟩ = some vi
  c1 : wr.cell? ⟨g, 1, none⟩ = some vb
  f0 : wr.frozen? ⟨g, 0, none⟩ = false
  f1 : wr.frozen? ⟨g, 1, none⟩ = false
  rf0 : wr.frozen? ⟨w.heap.size, 0, none⟩ = false
  rf1 : wr.frozen? ⟨w.heap.size, 1, none⟩ = false
  rc0 : (wr.cell? ⟨w.heap.size, 0, none⟩).isSome = true
  rc1 : (wr.cell? ⟨w.heap.size, 1, none⟩).isSome = true
/-- the new volume stored in the variable's box -/
theorem Kept.store {w wr w6 : World} {g : Nat} {vi vb vi5 vb5 : Value} {V V5 : Vol} (h : Kept w g wr vi vb V) (hwg : w.heap.size < g) (hb : Below wr.heap.size wr w6)
    (hv : OwnVol (w.heap.size + 1) vi5 vb5 V5 ((w6.setCell ⟨g, 0, none⟩ vi5).setCell ⟨g, 1, none⟩ vb5) ((w6.setCell ⟨g, 0, none⟩ vi5).setCell ⟨g, 1, none⟩ vb5)) : Kept w g ((w6.setCell ⟨g, 0, none⟩ vi5).setCell ⟨g, 1, none⟩ vb5) vi5 vb5 V5 := by
  have hr : w.heap.size < wr.heap.size := Nat.lt_trans hwg h.gw
  have c0 := (hb.cell (p := ⟨g, 0, none⟩) h.gw).trans h.c0
  have c1 := (hb.cell (p := ⟨g, 1, none⟩) h.gw).trans h.c1
  have f0 := (hb.frozen (p := ⟨g, 0, none⟩) h.gw).trans h.f0
  have f1 := (hb.frozen (p := ⟨g, 1, none⟩) h.gw).trans h.f1
  have rf0 := (hb.frozen (p := ⟨w.heap.size, 0, none⟩) hr).trans h.rf0
  have rf1 := (hb.frozen (p := ⟨w.heap.size, 1, none⟩) hr).trans h.rf1
  have rc0 := hb.cell (p := ⟨w.heap.size, 0, none⟩) hr
  have rc1 := hb.cell (p := ⟨w.heap.size, 1, none⟩) hr
  have k0 := h.rc0
  have k1 := h.rc1
  rw [← rc0] at k0
  rw [← rc1] at k1
  have hne' : ¬ g = w.heap.size := by omega
  have hgs := Nat.lt_of_lt_of_le h.gw hb.size
  have hbel : Below w.heap.size w w6 := h.bel.trans (hb.mono (by omega))
  refine ⟨hv, (hbel.setCell (p := ⟨g, 0, none⟩) (by show w.heap.size ≤ g; omega) _).setCell (p := ⟨g, 1, none⟩) (by show w.heap.size ≤ g; omega) _, by simpa using hgs, ?_, ?_, ?_, ?_, ?_, ?_, ?_, ?_⟩
  · rw [World.cell?_setCell_other _ _ _ _ (by simp)]; exact World.cell?_setCell_same _ _ _ c0
  · exact World.cell?_setCell_same _ _ _ ((World.cell?_setCell_other _ _ _ _ (by simp)).trans c1)
  · rw [World.frozen?_setCell, World.frozen?_setCell]; exact f0
  · rw [World.frozen?_setCell, World.frozen?_setCell]; exact f1
  · rw [World.frozen?_setCell, World.frozen?_setCell]; exact rf0
  · rw [World.frozen?_setCell, World.frozen?_setCell]; exact rf1
  · rw [World.cell?_setCell_other _ _ _ _ (fun h => hne' (congrArg Addr.block h)), World.cell?_setCell_other _ _ _ _ (fun h => hne' (congrArg Addr.block h))]; exact k0
  · rw [World.cell?_setCell_other _ _ _ _ (fun h => hne' (congrArg Addr.block h)), World.cell?_setCell_other _ _ _ _ (fun h => hne' (congrArg Addr.block h))]; exact k1
theorem own_store {B C g : Nat} {vi vb x y : Value} {V : Vol} {W w : World} (h : OwnVol B vi vb V W w) (hg : g < B) (hC : C ≤ B) : OwnVol C vi vb V ((w.setCell ⟨g, 0, none⟩ x).setCell ⟨g, 1, none⟩ y) ((w.setCell ⟨g, 0, none⟩ x).setCell ⟨g, 1, none⟩ y) :=
  ((h.setBox (k := 0) (x := x) hg).setBox (k := 1) (x := y) hg).lower hC (Below.refl _ _)
theorem Kept.keep {w wr w' : World} {g : Nat} {vi vb : Value} {V : Vol} (h : Kept w g wr vi vb V) (hwg : w.heap.size < g) (hb : Below wr.heap.size wr w') : Kept w g w' vi vb V := by
  have hr : w.heap.size < wr.heap.size := Nat.lt_trans hwg h.gw
  exact ⟨⟨(h.own.1.past hb).rebase, (h.own.2.1.past hb).rebase, h.own.2.2⟩, h.bel.trans (hb.mono (by omega)), Nat.lt_of_lt_of_le h.gw hb.size,
    (hb.cell (p := ⟨g, 0, none⟩) h.gw).trans h.c0, (hb.cell (p := ⟨g, 1, none⟩) h.gw).trans h.c1, (hb.frozen (p := ⟨g, 0, none⟩) h.gw).trans h.f0, (hb.frozen (p := ⟨g, 1, none⟩) h.gw).trans h.f1,
    (hb.frozen (p := ⟨w.heap.size, 0, none⟩) hr).trans h.rf0, (hb.frozen (p := ⟨w.heap.size, 1, none⟩) hr).trans h.rf1,
    by rw [hb.cell (p := ⟨w.heap.size, 0, none⟩) hr]; exact h.rc0, by rw [hb.cell (p := ⟨w.heap.size, 1, none⟩) hr]; exact h.rc1⟩
theorem own_vol {B : Nat} {vi vb : Value} {V : Vol} {W w : World} (h : OwnVol B vi vb V W w) (hV : V16 V) : VolAt w (.agg #[vi, vb]) V :=
  h.vol (by have := hV.items; omega) (by rw [hV.n]; omega)

def VolRet (w : World) (e : Ending) (w' : World) : Prop := ∃ vi vb V, e = .returned (.agg #[vi, vb]) ∧ VolAt w' (.agg #[vi, vb]) V ∧ V16 V ∧ Below w.heap.size w w'

set_option maxRecDepth 100000 in
set_option maxHeartbeats 2000000 in
theorem Volume_any (v : Value) (L : List Rw) (w : World) (h : RawsAt w v L) (hok : ∀ r ∈ L, RwOk r) :
    Calls Tryd.prog 8 #[v] w (VolRet w) := by
  obtain ⟨p, c, rfl⟩ := h.isSlice
  have HK := Lib.hid hok
  have HR := Lib.hid h
  clear hok h
  have hnew : ∀ W, Calls Tryd.prog 24 #[.int .i64 16] W (RetVol (newV 16) 0 W) := fun W => VNew_any 16 W
  go_enter Tryd.func8, Tryd.ntmps8
  go_wp2_with (go_at_call 24; refine (hnew _).mono ?_; rintro e w1 ⟨vi, vb, rfl, hown⟩; obtain ⟨pi, ci, rfl⟩ := hown.1.isSlice; obtain ⟨pb, cb, rfl⟩ := hown.2.1.isSlice)
  have hsz1 : w.heap.size < w1.heap.size := by
    have := hown.below.size
    simp at this
    omega
  have hbw1 : Below w.heap.size w w1 := (below_alloc (Below.refl _ _) _).trans (hown.below.mono (by simp))
  have hr0 := hown.below.cell (p := ⟨w.heap.size, 0, none⟩) (by simp)
  have hr1 := hown.below.cell (p := ⟨w.heap.size, 1, none⟩) (by simp)
  have hf0 := hown.below.frozen (p := ⟨w.heap.size, 0, none⟩) (by simp)
  have hf1 := hown.below.frozen (p := ⟨w.heap.size, 1, none⟩) (by simp)
  simp at hr0 hr1 hf0 hf1
  obtain ⟨wg, hwg⟩ : ∃ wg, wg = w1.alloc (.cells #[.slice pi (newV 16).items.length ci, .slice pb (newV 16).blocks.length cb] 26) := ⟨_, rfl⟩
  obtain ⟨g, hg⟩ : ∃ g, w1.heap.size = g := ⟨_, rfl⟩
  have hstart : Kept w g wg (.slice pi (newV 16).items.length ci) (.slice pb (newV 16).blocks.length cb) (newV 16) := by
    subst hwg
    subst hg
    have hne : w.heap.size ≠ w1.heap.size := by omega
    refine ⟨⟨((hown.1.alloc _).rebase).lower (by simp) (Below.refl _ _), ((hown.2.1.alloc _).rebase).lower (by simp) (Below.refl _ _), hown.2.2⟩, hbw1.alloc (by omega) _, by simp, by simp, by simp, by simp, by simp, ?_, ?_, ?_, ?_⟩
    · rw [(below_alloc (Below.refl w1.heap.size w1) _).frozen (p := ⟨w.heap.size, 0, none⟩) hsz1]; exact hf0
    · rw [(below_alloc (Below.refl w1.heap.size w1) _).frozen (p := ⟨w.heap.size, 1, none⟩) hsz1]; exact hf1
    · rw [(below_alloc (Below.refl w1.heap.size w1) _).cell (p := ⟨w.heap.size, 0, none⟩) hsz1, hr0]; rfl
    · rw [(below_alloc (Below.refl w1.heap.size w1) _).cell (p := ⟨w.heap.size, 1, none⟩) hsz1, hr1]; rfl
  rw [hg, ← hwg]
  go_loopw [0] (fun l wr => ∃ (L2 : List Rw) (V : Vol) (vi vb : Value), RawsAt w l L2 ∧ (∀ r ∈ L2, RwOk r) ∧ V16 V ∧ Kept w g wr vi vb V) (fun l _ => lenOf l)
  case atStart => exact ⟨L, newV 16, _, _, HR.out, HK.out, V16.new, hstart⟩
  case round =>
    clear hr0 hr1 hf0 hf1 hown hstart
    obtain ⟨L2, V, vi, vb, hraw, hok, hV, hkp⟩ := hrel
    have HKP := Lib.hid hkp
    have hvol := own_vol hkp.own hV
    obtain ⟨hown0, hbel, hgw, c0, c1, f0, f1, rf0, rf1, rc0, rc1⟩ := hkp
    have hwg0 : w.heap.size < g := by omega
    have hne : ¬ g = w.heap.size := by omega
    by_cases hlen : 0 < L2.length
    · obtain ⟨b, off, c2, rfl, hlc, hcc⟩ := hraw.size hlen
      obtain ⟨m, hm, hm1, hm2⟩ : ∃ m : Nat, min 5 (L2.length : Int) = (m : Int) ∧ 1 ≤ m ∧ m ≤ L2.length := ⟨min 5 L2.length, by omega, by omega, by omega⟩
      have HT := Lib.hid ((hraw.keep hbel).take hm2)
      have HD := Lib.hid (hraw.drop hm2)
      have HTK := Lib.hid (fun r hr => hok r (List.mem_of_mem_take hr) : ∀ r ∈ L2.take m, RwOk r)
      have HDK := Lib.hid (fun r hr => hok r (List.mem_of_mem_drop hr) : ∀ r ∈ L2.drop m, RwOk r)
      have HV := Lib.hid hvol
      have HB := Lib.hid hbel
      clear hraw hok hvol hbel
      have hmc : m ≤ c2 := by omega
      have hgnr : ¬ g = wr.heap.size := by omega
      go_wp2
      go_region_with (first
        | (go_at_call 16
           refine Calls.mono (Writes_any _ (L2.take m) 16 (by omega) _ (HT.out.keep (by first | exact (Below.refl _ _).drew | exact below_alloc (Below.refl _ _).drew _)) HTK.out) ?_
           rintro e w3 ⟨u, W, rfl, hwo, hwok, hwd⟩
           have hb3 : Below wr.heap.size wr w3 := by first | exact below_then (Below.refl _ _).drew hwo.below | exact below_then (below_alloc (Below.refl _ _).drew _) hwo.below
           have hg3 := Nat.lt_of_lt_of_le hgw hb3.size
           have hgn : ¬ g = w3.heap.size := by omega
           have e0 := (hb3.cell (p := ⟨g, 0, none⟩) hgw).trans c0
           have e1 := (hb3.cell (p := ⟨g, 1, none⟩) hgw).trans c1
           try (have z0 := hwo.below.cell (p := ⟨wr.heap.size, 0, none⟩) (by first | (simp; done) | omega); have z1 := hwo.below.cell (p := ⟨wr.heap.size, 1, none⟩) (by first | (simp; done) | omega); have y0 := hwo.below.frozen (p := ⟨wr.heap.size, 0, none⟩) (by first | (simp; done) | omega); have y1 := hwo.below.frozen (p := ⟨wr.heap.size, 1, none⟩) (by first | (simp; done) | omega); have zs := hwo.below.size; simp at z0 z1 y0 y1 zs)
           have HWO := Lib.hid (hwo.writes (by have := hwok.len; omega))
           have HWK := Lib.hid hwok
           have HWD := Lib.hid hwd
           clear hwo hwok hwd)
        | (go_at_call 17
           refine Calls.mono (Apply16 _ _ V W _ (HV.out.keep (by first | exact hb3 | exact below_alloc hb3 _)) (HWO.out.keep (by first | exact Below.refl _ _ | exact below_alloc (Below.refl _ _) _)) hV HWK.out HWD.out) ?_
           rintro e w5 ⟨p5, c5, q5, d5, V5, n5, m5, hV5, rfl, hown5⟩
           try (have x0 := hown5.below.cell (p := ⟨w3.heap.size, 0, none⟩) (by first | (simp; done) | omega); have x1 := hown5.below.cell (p := ⟨w3.heap.size, 1, none⟩) (by first | (simp; done) | omega); have f0' := hown5.below.frozen (p := ⟨w3.heap.size, 0, none⟩) (by first | (simp; done) | omega); have f1' := hown5.below.frozen (p := ⟨w3.heap.size, 1, none⟩) (by first | (simp; done) | omega); simp at x0 x1 f0' f1')
           try (have x0 := (hown5.below.cell (p := ⟨wr.heap.size, 0, none⟩) (by show wr.heap.size < w3.heap.size; omega)).trans z0; have x1 := (hown5.below.cell (p := ⟨wr.heap.size, 1, none⟩) (by show wr.heap.size < w3.heap.size; omega)).trans z1; have f0' := (hown5.below.frozen (p := ⟨wr.heap.size, 0, none⟩) (by show wr.heap.size < w3.heap.size; omega)).trans y0; have f1' := (hown5.below.frozen (p := ⟨wr.heap.size, 1, none⟩) (by show wr.heap.size < w3.heap.size; omega)).trans y1)
           have hb5 : Below wr.heap.size wr w5 := by first | exact below_then hb3 hown5.below | exact below_then (below_alloc hb3 _) hown5.below
           have hg5 := Nat.lt_of_lt_of_le hgw hb5.size
           have hgn5 : ¬ g = w5.heap.size := by omega
           have G0 := (hb5.cell (p := ⟨g, 0, none⟩) hgw).trans c0
           have G1 := (hb5.cell (p := ⟨g, 1, none⟩) hgw).trans c1
           have GF0 := (hb5.frozen (p := ⟨g, 0, none⟩) hgw).trans f0
           have GF1 := (hb5.frozen (p := ⟨g, 1, none⟩) hgw).trans f1
           have HO5 := Lib.hid hown5
           have HB5 := Lib.hid hb5
           clear hown5 hb5))
      all_goals
        clear c0 c1 f0 f1 e0 e1
        go_wp2
        go_roundw
        case rel =>
          refine ⟨L2.drop m, V5, .slice p5 n5 c5, .slice q5 m5 d5, HD.out, HDK.out, hV5, ?_⟩
          first
            | (refine Kept.keep ?_ hwg0 (below_alloc (Below.refl _ _) _); exact HKP.out.store hwg0 HB5.out (own_store HO5.out hg3 (by omega)))
            | exact HKP.out.store hwg0 ((HB5.out.setCell (p := ⟨w3.heap.size, 0, none⟩) hb3.size _).setCell (p := ⟨w3.heap.size, 1, none⟩) hb3.size _) (own_store ((HO5.out.setBox (by simp)).setBox (by simp)) (by simp; omega) (by simp; omega))
            | exact HKP.out.store hwg0 ((HB5.out.setCell (p := ⟨wr.heap.size, 0, none⟩) (Nat.le_refl _) _).setCell (p := ⟨wr.heap.size, 1, none⟩) (Nat.le_refl _) _) (own_store ((HO5.out.setBox (by omega)).setBox (by omega)) hg3 (by omega))
        case measure => simp [lenOf]; omega
    · have hl0 : L2.length = 0 := by omega
      obtain ⟨p2, c2, rfl⟩ := hraw.isSlice
      rw [hl0]
      obtain ⟨x0, hx0⟩ := Option.isSome_iff_exists.1 rc0
      obtain ⟨x1, hx1⟩ := Option.isSome_iff_exists.1 rc1
      obtain ⟨pa, ca, rfl⟩ := hown0.1.isSlice
      obtain ⟨pz, cz, rfl⟩ := hown0.2.1.isSlice
      have hfin := own_store (x := .slice pa V.items.length ca) (y := .slice pz V.blocks.length cz) hown0 (Nat.lt_succ_self w.heap.size) (Nat.le_refl _)
      have hbf : Below w.heap.size w ((wr.setCell ⟨w.heap.size, 0, none⟩ (.slice pa V.items.length ca)).setCell ⟨w.heap.size, 1, none⟩ (.slice pz V.blocks.length cz)) := (hbel.setCell (p := ⟨w.heap.size, 0, none⟩) (Nat.le_refl _) _).setCell (p := ⟨w.heap.size, 1, none⟩) (Nat.le_refl _) _
      have HF := Lib.hid (own_vol hfin hV)
      clear hfin hown0
      go_wp2
      have y0 : ((wr.setCell ⟨w.heap.size, 0, none⟩ (.slice pa V.items.length ca)).setCell ⟨w.heap.size, 1, none⟩ (.slice pz V.blocks.length cz)).cell? ⟨w.heap.size, 0, none⟩ = some (.slice pa V.items.length ca) := by
        rw [World.cell?_setCell_other _ _ _ _ (by simp)]; exact World.cell?_setCell_same _ _ _ hx0
      have y1 : ((wr.setCell ⟨w.heap.size, 0, none⟩ (.slice pa V.items.length ca)).setCell ⟨w.heap.size, 1, none⟩ (.slice pz V.blocks.length cz)).cell? ⟨w.heap.size, 1, none⟩ = some (.slice pz V.blocks.length cz) :=
        World.cell?_setCell_same _ _ _ ((World.cell?_setCell_other _ _ _ _ (by simp)).trans hx1)
      refine bodyPost_ret (v := .agg #[.slice pa V.items.length ca, .slice pz V.blocks.length cz]) (by simp [results, Tryd.results8, go_sem, y0, y1]) rfl ⟨_, _, V, rfl, HF.out, hV, hbf⟩
end Go.Proofs.YtajjhjabehiikabDoor
