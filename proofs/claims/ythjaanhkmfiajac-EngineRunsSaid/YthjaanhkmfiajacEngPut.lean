/- Package engine: put: what it answers and leaves of the state. No condition but that the state stands. -/
import Derived.Test.YthjaanhkmfiajacEngSmall
import Derived.Test.YthjaanhkmfiajacVolWrites
import Derived.Test.YthjaanhkmfiajacEngReplay
import Derived.Test.YthjaanhkmfiajacWritesInsert
namespace Go.Proofs.Ythjaanhkmfiajac
open Go.RowKit LM

theorem wFault_one (b : Int) (d : ByteArray) (n : Nat) : wFault [⟨b, d⟩] (n : Int) = if ¬ (0 ≤ b ∧ b ≤ (n : Int) - 1) then 6 else if 48 < d.size then 1 else 0 := by
  unfold wFault
  rw [if_neg (by simp)]
  unfold wRest
  by_cases h1 : ¬ (0 ≤ b ∧ b ≤ (n : Int) - 1)
  · have : wOne (n : Int) none ⟨b, d⟩ = 6 := by unfold wOne; rw [if_pos h1]
    rw [this, if_neg (by decide), if_pos h1]
  · by_cases h2 : 48 < d.size
    · have : wOne (n : Int) none ⟨b, d⟩ = 1 := by unfold wOne; rw [if_neg h1, if_pos h2]
      rw [this, if_neg (by decide), if_neg h1, if_pos h2]
    · have : wOne (n : Int) none ⟨b, d⟩ = 0 := by unfold wOne; rw [if_neg h1, if_neg h2]
      rw [this, if_pos rfl, if_neg h1, if_neg h2]
      rfl
theorem one_writes (w : World) (b : Int) (d : ByteArray) : WritesAt (w.alloc (.cells #[.int .i64 b, .string d] 61)) (.slice (some ⟨w.heap.size, 0, none⟩) 1 1) [⟨b, d⟩] := by
  refine ⟨_, 1, rfl, by simp, (fun h => by cases h), fun i x hx => ⟨w.heap.size, 0, rfl, by simp, ?_⟩⟩
  match i, hx with
  | 0, hx =>
    simp at hx; subst hx
    exact ⟨by simp, by simp⟩
  | i + 1, hx => simp at hx

section
variable {B : Nat} {W0 w w' : World} {g : Nat} {V S : Vol} {lg : ByteArray} {du : Int} {op : Bool} {L L' : List Wr} {vi vb si sb wv wv' : Value}
theorem StC.block (h : StC B W0 w g V S lg du op L vi vb si sb wv) (hg : w.grownBy w' wv.ownBlock) : w'.heap[g]? = w.heap[g]? := hg.block g h.lt (fun e => h.off e.symm)
theorem OwnW.setGrown {e : TypeId} {B gw cap : Nat} {W0 w : World} {L : List Wr} (h : OwnW B e (.slice (some ⟨gw, 0, none⟩) L.length cap) L W0 w) (k : Nat) (x y : Value) :
    w.grownBy ((w.setCell ⟨gw, k * 2, none⟩ x).setCell ⟨gw, k * 2 + 1, none⟩ y) (Value.slice (some ⟨gw, 0, none⟩) L.length cap).ownBlock := by
  obtain ⟨h1, g1⟩ := h.1.stored (k * 2) x
  obtain ⟨h2, g2⟩ := h1.stored (k * 2 + 1) y
  exact grown_twice g1 g2
/-- the row of the writes was written in place -/
theorem StC.wrSame (h : StC B W0 w g V S lg du op L vi vb si sb wv) (hg : w.grownBy w' wv.ownBlock) (ho : OwnW B 61 wv L' W0 w') : StC B W0 w' g V S lg du op L' vi vb si sb wv := by
  have eb := h.block hg
  have hc : ∀ j, w'.cell? ⟨g, j, none⟩ = w.cell? ⟨g, j, none⟩ := fun j => World.cell?_of_block (a := ⟨g, j, none⟩) eb
  obtain ⟨cur, fr, hk⟩ := h.ty
  have hs := Soft.grown h.writes.1 hg
  exact ⟨h.ge, ⟨cur, fr, eb.trans hk⟩, fun j => (World.frozen?_of_block (a := ⟨g, j, none⟩) eb).trans (h.fz j), (hc 0).trans h.c0, (hc 1).trans h.c1, (hc 2).trans h.c2, (hc 3).trans h.c3, (hc 4).trans h.c4, (hc 5).trans h.c5, (hc 6).trans h.c6, (hc 7).trans h.c7, h.vol.soft hs, h.saved.soft hs, ho⟩
/-- the row of the writes is another now -/
theorem StC.wrNew (h : StC B W0 w g V S lg du op L vi vb si sb wv) (hg : w.grownBy w' wv.ownBlock) (ho : OwnW B 61 wv' L' W0 w') : StC B W0 (w'.setCell ⟨g, 7, none⟩ wv') g V S lg du op L' vi vb si sb wv' ∧ Soft w (w'.setCell ⟨g, 7, none⟩ wv') := by
  have eb := h.block hg
  have hc : ∀ j, w'.cell? ⟨g, j, none⟩ = w.cell? ⟨g, j, none⟩ := fun j => World.cell?_of_block (a := ⟨g, j, none⟩) eb
  obtain ⟨cur, fr, hk⟩ := h.ty
  have hk' := eb.trans hk
  have hs := (Soft.grown h.writes.1 hg).trans (Soft.setCell (p := ⟨g, 7, none⟩) (x := wv') hk' (.inl rfl))
  have hoff : wv'.ownBlock ≠ some g := fun he => type_apart (by decide) ho.1 hk' he.symm
  exact ⟨⟨h.ge, ty_set ⟨cur, fr, hk'⟩, fz_set (fun j => (World.frozen?_of_block (a := ⟨g, j, none⟩) eb).trans (h.fz j)), cell_old (by decide) ((hc 0).trans h.c0), cell_old (by decide) ((hc 1).trans h.c1), cell_old (by decide) ((hc 2).trans h.c2), cell_old (by decide) ((hc 3).trans h.c3), cell_old (by decide) ((hc 4).trans h.c4), cell_old (by decide) ((hc 5).trans h.c5), cell_old (by decide) ((hc 6).trans h.c6), cell_new ((hc 7).trans h.c7), h.vol.soft hs, h.saved.soft hs, own_set ho h.ge hoff⟩, hs⟩
end

section
variable {B : Nat} {W0 : World} {g n : Nat} {s : EM.St}

set_option maxRecDepth 100000 in
set_option maxHeartbeats 4000000 in
theorem put_any (b : Int) (d : ByteArray) (w : World) (h : St B W0 w g n s) :
    Calls Try.prog 20 #[.pointer (some ⟨g, 0, none⟩), .agg #[.int .i64 b, .string d]] w (ActRet B W0 w g n (EM.step s (EM.put b d)).1 (EM.step s (EM.put b d)).2.code) := by
  have hst := EM.step_put s b d
  have hinv := EM.step_inv h.1 (EM.put b d)
  obtain ⟨T, hT⟩ : ∃ T, T = EM.step s (EM.put b d) := ⟨_, rfl⟩
  rw [← hT] at hst hinv ⊢
  have hbx := below_alloc (Below.refl w.heap.size w) (.cells #[.int .i64 b, .string d] 61)
  have h' := h
  obtain ⟨hi, vi, vb, si, sb, wv, hc0⟩ := h'
  have hc := hc0.keep hbx
  have hgl := hc.lt
  have hg1 := hc0.lt
  have c6w := hc0.c6
  have hwlt : ∀ q, wv.ownBlock = some q → q < w.heap.size := fun q hq => (hc0.writes.1.lt q hq).2
  obtain ⟨Gb, hGb⟩ : ∃ G, G = w.heap.size := ⟨_, rfl⟩
  obtain ⟨W1, hW1⟩ : ∃ W, W = w.alloc (.cells #[.int .i64 b, .string d] 61) := ⟨_, rfl⟩
  have HWL := Lib.hid hwlt
  clear hwlt hc0
  have HST := Lib.hid hst
  have HINV := Lib.hid hinv
  have HI := Lib.hid hi
  have HC := Lib.hid hc
  have HBX := Lib.hid hbx
  have hne1 : ¬ g = w.heap.size := by omega
  have hne2 : ¬ w.heap.size = g := by omega
  cases hop2 : s.op with
  | false =>
    rw [hop2] at c6w
    rw [if_pos hop2] at hst
    have HT := Lib.hid hst
    have HH := Lib.hid h
    clear hop2 hst hT hi hc hbx hinv hGb hW1 h
    go_enter Try.func20, Try.ntmps20
    go_wp2
    go_ret
    rw [HT.out]
    exact ⟨rfl, HH.out.keep HBX.out, .of_below HBX.out⟩
  | true =>
    rw [hop2] at c6w
    rw [if_neg (by simp [hop2])] at hst
    have HOP := Lib.hid hop2
    have HT := Lib.hid hst
    clear hop2 hst hT hi hc hbx hinv h HST
    go_enter Try.func20, Try.ntmps20
    go_wp2
    have hc := HC.out
    have ha : OneWAt W1 Gb ⟨b, d⟩ := by
      rw [hW1, hGb]
      show (w.heap.push _)[w.heap.size]? = _
      simp
    have hbx := HBX.out
    rw [← hW1] at hc hbx
    rw [← hGb, ← hW1]
    have hwl := HWL.out
    rw [← hGb] at hwl
    have HWG := Lib.hid hwl
    clear hwl HWL
    have hgG : g < Gb := by omega
    have hGW : Gb < W1.heap.size := ha.lt
    obtain ⟨pv, cv, qv, dv, rfl, rfl⟩ := hc.vol.slices
    have hbn : s.now.blocks.length = n := HI.out.now.2
    rw [hbn] at hc
    have a0 : W1.cell? ⟨Gb, 0, none⟩ = some (.int .i64 b) := by rw [ha.cell]; rfl
    have a1 : W1.cell? ⟨Gb, 1, none⟩ = some (.string d) := by rw [ha.cell]; rfl
    have c1 := hc.c1
    have HA := Lib.hid ha
    have HC1 := Lib.hid hc
    have HB1 := Lib.hid hbx
    have HBN := Lib.hid hbn
    have n1 : ¬ W1.heap.size = g := by omega
    have n2 : ¬ g = W1.heap.size := by omega
    have n3 : ¬ W1.heap.size = Gb := by omega
    have n4 : ¬ Gb = W1.heap.size := by omega
    clear hne1 hne2 hGb hW1 HC HBX hbn ha hc hbx c6w hg1 hgl
    obtain ⟨cd, hcd⟩ : ∃ c, c = wFault [⟨b, d⟩] (n : Int) := ⟨_, rfl⟩
    have hcw : Calls Try.prog 33 #[.slice (some ⟨W1.heap.size, 0, none⟩) 1 1, .int .i64 (n : Int)] (W1.alloc (.cells #[.int .i64 b, .string d] 61)).drew fun e w' => e = .returned (.int .i64 cd) ∧ Below W1.heap.size W1 w' := by
      rw [hcd]
      refine (VWrites_any _ [⟨b, d⟩] (n : Int) _ ((one_writes W1 b d).keep (Below.refl _ _).drew)).mono ?_
      rintro e w' ⟨he, hb⟩
      exact ⟨he, below_then (below_alloc (Below.refl _ _) _).drew hb⟩
    have HCW := Lib.hid hcw
    have HCD := Lib.hid hcd
    clear hcw hcd
    go_region_held3 (fun w' => w'.cell? ⟨Gb, 0, none⟩ = some (.int .i64 b) ∧ w'.cell? ⟨Gb, 1, none⟩ = some (.string d) ∧ w'.cell? ⟨g, 1, none⟩ = some (.slice qv n dv)) (first | exact ⟨k0, k1, k2⟩ | go_keep)
      ((go_at_call 33; refine HCW.out.mono ?_; rintro e w2 ⟨rfl, hb12⟩; have k0 := (hb12.cell (p := ⟨Gb, 0, none⟩) hGW).trans a0; have k1 := (hb12.cell (p := ⟨Gb, 1, none⟩) hGW).trans a1; have k2 := (hb12.cell (p := ⟨g, 1, none⟩) (Nat.lt_trans hgG hGW)).trans c1))
    have hb2 : Below w.heap.size w w2 := below_then HB1.out hb12
    have hbad : ∀ (w3 : World) (c : Int), Below w2.heap.size w2 w3 → T = (s, EM.err c) → ActRet B W0 w g n T.1 T.2.code (.returned (.int .i64 c)) w3 := by
      intro w3 c hb3 hT
      rw [hT]
      exact ⟨rfl, ⟨HI.out, _, _, _, _, _, (HC1.out.keep hb12).keep hb3⟩, .of_below (below_then hb2 hb3)⟩
    have HBAD := Lib.hid hbad
    clear hbad
    by_cases hr : ¬ (0 ≤ b ∧ b ≤ (n : Int) - 1)
    · have hc6 : cd = 6 := by rw [HCD.out, wFault_one, if_pos hr]
      have ht := HT.out
      rw [if_pos (by rw [HBN.out]; exact hr)] at ht
      have HT2 := Lib.hid ht
      subst hc6
      clear hr ht HT
      go_wp2
      go_ret
      exact HBAD.out _ _ (Below.refl _ _) HT2.out
    · by_cases h48 : 48 < d.size
      · have hc1 : cd = 1 := by rw [HCD.out, wFault_one, if_neg hr, if_pos h48]
        have ht := HT.out
        rw [if_neg (by rw [HBN.out]; exact hr), if_pos (.inl h48)] at ht
        have HT2 := Lib.hid ht
        subst hc1
        clear hr ht HT h48
        go_wp2
        go_ret
        exact HBAD.out _ _ (Below.refl _ _) HT2.out
      · have hc0 : cd = 0 := by rw [HCD.out, wFault_one, if_neg hr, if_neg h48]
        have ht := HT.out
        rw [if_neg (by rw [HBN.out]; exact hr)] at ht
        have HT2 := Lib.hid ht
        have HR := Lib.hid hr
        have H48 := Lib.hid h48
        subst hc0
        clear hr ht HT h48 k2
        have hc2 := HC1.out.keep hb12
        have k7 := hc2.c7
        have hwv := hc2.writes.writes (by have := HI.out.l.len; omega)
        have hfi := efind_any wv s.l b w2.drew (hwv.keep (Below.refl _ _).drew) HI.out.l.up HI.out.l.len
        have ha2 := HA.out.past hb12
        obtain ⟨pw, cw, rfl⟩ := hc2.writes.isSlice
        have hg2 := hc2.lt
        have hGb2 : Gb < w2.heap.size := ha2.lt
        have HC2 := Lib.hid hc2
        have HA2 := Lib.hid ha2
        have HFI := Lib.hid hfi
        clear hc2 hwv hfi ha2 HC1 HA HB1 HCW hb12 hGW n1 n2 n3 n4 a0 a1 c1
        go_wp2
        go_region_held3 (fun w' => w'.cell? ⟨Gb, 0, none⟩ = some (.int .i64 b) ∧ w'.cell? ⟨g, 7, none⟩ = some (.slice pw s.l.length cw)) (first | exact ⟨q0, q7⟩ | go_keep)
          ((go_at_call 34; refine HFI.out.mono ?_; rintro e w3 ⟨i, hpl, rfl, hb3⟩; have hb23 : Below w2.heap.size w2 w3 := below_then (Below.refl _ _).drew hb3; have q0 := (hb23.cell (p := ⟨Gb, 0, none⟩) hGb2).trans k0; have q7 := (hb23.cell (p := ⟨g, 7, none⟩) hg2).trans k7))
        have hb3' : Below w.heap.size w w3 := below_then hb2 hb23
        have hc3 := HC2.out.keep hb23
        have ha3 := HA2.out.past hb23
        have q1 : w3.cell? ⟨Gb, 1, none⟩ = some (.string d) := by rw [ha3.cell]; rfl
        have hg3 := hc3.lt
        have hGb3 : Gb < w3.heap.size := ha3.lt
        have hpi := hpl.le
        have h12 := HI.out.l.len
        cases hfd : foundB s.l b i with
        | true =>
          have hput := putW_found (d := d) hpl hfd
          have ht := HT2.out
          rw [if_neg (by
            rintro (h | h)
            · exact H48.out h
            · rw [hput, List.length_set] at h; omega), hput] at ht
          have hilt : i < s.l.length := by
            by_cases hh : i < s.l.length
            · exact hh
            · rw [foundB_none hh] at hfd; cases hfd
          obtain ⟨gw, cap, he, hBg, hgw, hcap⟩ := hc3.writes.shape (by omega)
          cases he
          obtain ⟨x, hx⟩ : ∃ x, s.l[i]? = some x := ⟨_, List.getElem?_eq_getElem hilt⟩
          obtain ⟨w0, w1, wf, _⟩ := hc3.writes.cell hx
          have wf0 := wf (i * 2)
          have wf1 := wf (i * 2 + 1)
          have hgwG : gw < Gb := HWG.out gw rfl
          have hgwg : gw ≠ g := fun e => hc3.off (by rw [e]; rfl)
          have hset := hc3.writes.set hilt ⟨b, d⟩
          have m1 : ¬ gw = g := hgwg
          have m2 : ¬ g = gw := fun e => hgwg e.symm
          have m3 : ¬ gw = Gb := by omega
          have m4 : ¬ Gb = gw := by omega
          have hi0 : (0 : Int) ≤ (i : Int) := by omega
          have hi1 : (i : Int) < (s.l.length : Int) := by omega
          have HT3 := Lib.hid ht
          have HSET := Lib.hid hset
          have HC3 := Lib.hid hc3
          clear hput ht hset hc3 hfd hpl hx HC2 HA2 HFI k0 k7 HWG ha3
          go_wp2
          go_region_held3 (fun w' => w'.cell? ⟨Gb, 0, none⟩ = some (.int .i64 b) ∧ w'.cell? ⟨Gb, 1, none⟩ = some (.string d) ∧ w'.cell? ⟨g, 7, none⟩ = some (.slice (some ⟨gw, 0, none⟩) s.l.length cw)) (go_keep) (fail)
          go_wp2
          go_ret
          have hinv := HINV.out
          rw [HT3.out] at hinv ⊢
          have hgr := HC3.out.writes.setGrown i (.int .i64 b) (.string d)
          have hs := HC3.out.wrSame hgr HSET.out
          have hso := Soft.grown HC3.out.writes.1 hgr
          have hdr := (Below.refl ((w3.setCell ⟨gw, i * 2, none⟩ (.int .i64 b)).setCell ⟨gw, i * 2 + 1, none⟩ (.string d)).heap.size ((w3.setCell ⟨gw, i * 2, none⟩ (.int .i64 b)).setCell ⟨gw, i * 2 + 1, none⟩ (.string d))).drew
          exact ⟨rfl, ⟨hinv, _, _, _, _, _, hs.keep hdr⟩, ((Soft.of_below hb3').trans hso).trans (.of_below hdr)⟩
        | false =>
          have hput := putW_new (d := d) hpl hfd
          have hlen := putW_len (d := d) hpl
          rw [hfd, if_neg (by simp)] at hlen
          have q7z := q7
          by_cases hfull : s.l.length = 12
          · have ht := HT2.out
            rw [if_pos (.inr (by rw [hlen]; omega))] at ht
            have HT3 := Lib.hid ht
            have t12 : ((s.l.length : Int) == 12) = true := by simpa using (by omega : (s.l.length : Int) = 12)
            clear hput hlen ht hfull hfd hpl hc3 ha3 HC2 HA2 HFI k0 k7
            go_wp2
            go_ret
            exact HBAD.out _ _ hb23 HT3.out
          · have ht := HT2.out
            rw [if_neg (by
              rintro (h | h)
              · exact H48.out h
              · rw [hlen] at h; omega), hput] at ht
            have t12 : ((s.l.length : Int) == 12) = false := by simp; omega
            have hoN : (Value.slice pw s.l.length cw).ownBlock ≠ some w3.heap.size := fun e => by
              have := (hc3.writes.1.lt _ e).2
              omega
            have hoG : some Gb ≠ (Value.slice pw s.l.length cw).ownBlock := fun e => by
              have := HWG.out Gb e.symm
              omega
            have hnew : OneWAt (w3.alloc (.cells #[.int .i64 b, .string d] 61)).drew w3.heap.size ⟨b, d⟩ := by
              show (w3.heap.push _)[w3.heap.size]? = _
              simp
            have hins := WInsert_any B _ s.l i ⟨b, d⟩ w3.heap.size W0 _ ((hc3.writes.alloc (.cells #[.int .i64 b, .string d] 61)).drew) hpi (by omega) hnew hoN
            obtain ⟨NL, hNL⟩ : ∃ NL, NL = s.l.take i ++ [⟨b, d⟩] ++ s.l.drop i := ⟨_, rfl⟩
            rw [← hNL] at hins ht
            have HT3 := Lib.hid ht
            have hga : w3.grownBy (w3.alloc (.cells #[.int .i64 b, .string d] 61)).drew (Value.slice pw s.l.length cw).ownBlock := grown_drew (grown_alloc (grown_refl _ _) _)
            have f7 := hc3.fz 7
            have HC3 := Lib.hid hc3
            have HINS := Lib.hid hins
            have HGA := Lib.hid hga
            have HOG := Lib.hid hoG
            have m1 : ¬ w3.heap.size = g := by omega
            have m2 : ¬ g = w3.heap.size := by omega
            have m3 : ¬ w3.heap.size = Gb := by omega
            have m4 : ¬ Gb = w3.heap.size := by omega
            have m5 : ¬ Gb = g := by omega
            have m6 : ¬ g = Gb := by omega
            clear hNL hput hlen ht hfull hfd hpl hc3 ha3 HC2 HA2 HFI k0 k7 hoN hoG hnew hins hga
            go_wp2
            go_region_with (go_at_call 35; refine HINS.out.mono ?_; rintro e w5 ⟨v5, rfl, ho5, hg5⟩; have hgg := grown_twice HGA.out hg5; obtain ⟨p5, c5, rfl⟩ := ho5.isSlice; have r0 := (World.cell?_of_block (a := ⟨Gb, 0, none⟩) (hgg.block Gb hGb3 HOG.out)).trans q0; have r1 := (World.cell?_of_block (a := ⟨Gb, 1, none⟩) (hgg.block Gb hGb3 HOG.out)).trans q1; have r7 := (World.cell?_of_block (a := ⟨g, 7, none⟩) (HC3.out.block hgg)).trans q7; have rf7 := (World.frozen?_of_block (a := ⟨g, 7, none⟩) (HC3.out.block hgg)).trans f7; have HO5 := Lib.hid ho5; have HG5 := Lib.hid hgg; clear ho5 hg5 hgg)
            all_goals
              go_wp2
              go_ret
              have hinv := HINV.out
              rw [HT3.out] at hinv ⊢
              obtain ⟨hs, hso⟩ := HC3.out.wrNew HG5.out HO5.out
              exact ⟨rfl, ⟨hinv, _, _, _, _, _, hs⟩, (Soft.of_below hb3').trans hso⟩
end
end Go.Proofs.Ythjaanhkmfiajac
