/- The plain mathematics of items, volumes, writes, logs and engines, and rows that a call owns: texts merged into one. No condition but those in the statements. -/
import Derived.Test.YthjaanhkmfiajacRefLogs
import Derived.Test.YthjaanhkmfiajacRefVols
import Derived.Test.YthjaanhkmfiajacEngReplay
import Derived.Test.YthjaanhkmfiajacPure
import Derived.Deep.RegionWith
import Derived.Test.YthjaanhkmfiajacEngRun
import Derived.BigRegion
/- The document's House: its transactions as rows, what leaves them alone, the log's length, a write put among others, the volume now. Conditions: those in the statements. -/
namespace Go.Proofs.Ythjaanhkmfiajac
open Go.RowKit LM

/-! ### what changes boxes alone -/
/-- the types of what is never written to -/
def Hard (T : TypeId) : Prop := T = 55 ∨ T = 3 ∨ T = 61 ∨ T = 73
/-- blocks of those types are as they were -/
structure Bx (w w' : World) : Prop where
  size : w.heap.size ≤ w'.heap.size
  block : ∀ (k : Nat) cur T fr, w.heap[k]? = some (.cells cur T fr) → Hard T → w'.heap[k]? = w.heap[k]?
theorem Bx.refl (w : World) : Bx w w := ⟨Nat.le_refl _, fun _ _ _ _ _ _ => rfl⟩
theorem Bx.trans {a b c : World} (h : Bx a b) (k : Bx b c) : Bx a c :=
  ⟨Nat.le_trans h.size k.size, fun i cur T fr hi hT => by
    have e := h.block i cur T fr hi hT
    exact (k.block i cur T fr (e.trans hi) hT).trans e⟩
theorem Bx.of_below {w w' : World} (h : Below w.heap.size w w') : Bx w w' := ⟨h.size, fun k _ _ _ hk _ => h.block k (Array.getElem?_eq_some_iff.1 hk).1⟩
def BoxTy (w : World) (g : Nat) : Prop := ∃ cur T fr, w.heap[g]? = some (.cells cur T fr) ∧ ¬ Hard T
theorem BoxTy.set {w : World} {g g' j : Nat} {x : Value} (h : BoxTy w g) : BoxTy (w.setCell ⟨g', j, none⟩ x) g := by
  obtain ⟨cur, T, fr, hk, hT⟩ := h
  by_cases e : g = g'
  · subst e
    simp only [BoxTy, World.setCell, Array.getElem?_modify, if_true, hk, Option.map_some]
    exact ⟨_, _, _, rfl, hT⟩
  · exact ⟨cur, T, fr, by rw [Below.heap_setCell _ _ _ _ e]; exact hk, hT⟩
theorem BoxTy.keep {w w' : World} {g : Nat} (h : BoxTy w g) (hb : Below w.heap.size w w') : BoxTy w' g := by
  obtain ⟨cur, T, fr, hk, hT⟩ := h
  exact ⟨cur, T, fr, (hb.block g (Array.getElem?_eq_some_iff.1 hk).1).trans hk, hT⟩
theorem Bx.set {w0 w : World} {g j : Nat} {x : Value} (h : Bx w0 w) (hg : BoxTy w g) : Bx w0 (w.setCell ⟨g, j, none⟩ x) := by
  obtain ⟨cg, Tg, fg, hkg, hTg⟩ := hg
  refine h.trans ⟨by simp [World.setCell], fun k cur T fr hk hT => Below.heap_setCell _ _ _ _ (fun e => ?_)⟩
  have e' : k = g := e
  subst e'
  rw [hkg] at hk
  simp only [Option.some.injEq, Obj.cells.injEq] at hk
  exact hTg (hk.2.1 ▸ hT)
/-- a walk behind world wb: only the boxes bs were written to; all below N is as in wa -/
def Trk (N : Nat) (wa wb : World) (bs : List Nat) (w : World) : Prop := Bx wb w ∧ Below N wa w ∧ N ≤ w.heap.size ∧ ∀ g ∈ bs, N ≤ g ∧ BoxTy w g
theorem Trk.set {N : Nat} {wa wb w : World} {bs : List Nat} {g : Nat} (h : Trk N wa wb bs w) (hg : g ∈ bs) (j : Nat) (x : Value) : Trk N wa wb bs (w.setCell ⟨g, j, none⟩ x) :=
  ⟨h.1.set (h.2.2.2 g hg).2, h.2.1.setCell (p := ⟨g, j, none⟩) (h.2.2.2 g hg).1 x, by rw [size_setCell]; exact h.2.2.1, fun g' hg' => ⟨(h.2.2.2 g' hg').1, (h.2.2.2 g' hg').2.set⟩⟩
theorem Trk.past {N : Nat} {wa wb w w' : World} {bs : List Nat} (h : Trk N wa wb bs w) (hb : Below w.heap.size w w') : Trk N wa wb bs w' :=
  ⟨h.1.trans (.of_below hb), h.2.1.trans (hb.mono h.2.2.1), Nat.le_trans h.2.2.1 hb.size, fun g hg => ⟨(h.2.2.2 g hg).1, (h.2.2.2 g hg).2.keep hb⟩⟩
theorem Trk.drew {N : Nat} {wa wb w : World} {bs : List Nat} (h : Trk N wa wb bs w) : Trk N wa wb bs w.drew := h.past (Below.refl _ _).drew
theorem Trk.drewN {N : Nat} {wa wb w : World} {bs : List Nat} (h : Trk N wa wb bs w) (n : Nat) : Trk N wa wb bs (w.drewN n) := h.past (below_dr (Below.refl _ _) n)
theorem Trk.alloc {N : Nat} {wa wb w : World} {bs : List Nat} (h : Trk N wa wb bs w) (o : Obj) : Trk N wa wb bs (w.alloc o) := h.past (below_alloc (Below.refl _ _) o)
theorem VolTy.bx {w w' : World} {vi vb : Value} {V : Vol} (h : VolTy w vi vb V) (hb : Bx w w') : VolTy w' vi vb V :=
  h.of hb.size (fun k cur T fr hk hT => hb.block k cur T fr hk (by rcases hT with rfl | rfl; exact .inl rfl; exact .inr (.inl rfl)))
theorem InnerAt.bx {w w' : World} {u : Value} {W : List Wr} (h : InnerAt w u W) (hb : Bx w w') : InnerAt w' u W := by
  obtain ⟨⟨p, cap, hv, hl, hn, hc⟩, ht⟩ := h
  refine ⟨⟨p, cap, hv, hl, hn, fun i x hx => ?_⟩, fun p' n' c' hu => ?_⟩
  · obtain ⟨b, off, hp, hlt, h0, h1⟩ := hc i x hx
    obtain ⟨cur, fr, hk⟩ := ht ⟨b, off, none⟩ _ _ (by rw [hv, hp])
    have e := hb.block b cur _ fr hk (.inr (.inr (.inl rfl)))
    exact ⟨b, off, hp, Nat.lt_of_lt_of_le hlt hb.size, (World.cell?_of_block (a := ⟨b, _, none⟩) e).trans h0, (World.cell?_of_block (a := ⟨b, _, none⟩) e).trans h1⟩
  · obtain ⟨cur, fr, hk⟩ := ht p' n' c' hu
    exact ⟨cur, fr, (hb.block _ cur _ fr hk (.inr (.inr (.inl rfl)))).trans hk⟩
theorem InnerAt.nil (w : World) : InnerAt w (.slice none 0 0) [] := ⟨⟨none, 0, rfl, by simp, fun _ => rfl, by simp⟩, fun p n c h => by cases h⟩

/-! ### transactions -/
structure DRow where
  p : Option Addr
  len : Nat
  cap : Nat
  n : Int
def drowC (r : DRow) : List Value := [.slice r.p r.len r.cap, .int .i64 r.n]
theorem drowE : Enc drowC 2 := ⟨fun _ => rfl, fun x u h => by simp [drowC] at h; rcases h with rfl | rfl <;> rfl, by decide⟩
def DealsR (w : World) (R : List DRow) (D : List (List Wr)) : Prop := R.length = D.length ∧ ∀ (i : Nat) (r : DRow) (W : List Wr), R[i]? = some r → D[i]? = some W → InnerAt w (.slice r.p r.len r.cap) W ∧ r.n = ((recL W).length : Int)
theorem DealsR.bx {w w' : World} {R : List DRow} {D : List (List Wr)} (h : DealsR w R D) (hb : Bx w w') : DealsR w' R D := ⟨h.1, fun i r W hr hW => ⟨(h.2 i r W hr hW).1.bx hb, (h.2 i r W hr hW).2⟩⟩
/-- the slice value v holds the transactions D and their sizes -/
def DealsT (w : World) (v : Value) (D : List (List Wr)) : Prop := ∃ (p : Option Addr) (c : Nat) (R : List DRow), v = .slice p D.length c ∧ D.length ≤ c ∧ DealsR w R D ∧ RowsAt drowC 2 w v R ∧ ∀ q, p = some q → ∃ cur fr, w.heap[q.block]? = some (.cells cur 73 fr)
theorem DealsT.bx {w w' : World} {v : Value} {D : List (List Wr)} (h : DealsT w v D) (hb : Bx w w') : DealsT w' v D := by
  obtain ⟨p, c, R, rfl, hc, hR, ⟨p', c', hv, hl, hn, hcell⟩, ht⟩ := h
  rw [hR.1] at hv
  cases hv
  refine ⟨p, c, R, rfl, hc, hR.bx hb, ⟨p, c, by rw [hR.1], hl, hn, fun i x hx => ?_⟩, fun q hq => ?_⟩
  · obtain ⟨b, off, hp, hlt, h0⟩ := hcell i x hx
    obtain ⟨cur, fr, hk⟩ := ht ⟨b, off, none⟩ hp
    have e := hb.block b cur _ fr hk (.inr (.inr (.inr rfl)))
    exact ⟨b, off, hp, Nat.lt_of_lt_of_le hlt hb.size, fun j hj => (World.cell?_of_block (a := ⟨b, _, none⟩) e).trans (h0 j hj)⟩
  · obtain ⟨cur, fr, hk⟩ := ht q hq
    exact ⟨cur, fr, (hb.block _ cur _ fr hk (.inr (.inr (.inr rfl)))).trans hk⟩
theorem DealsT.nil (w : World) : DealsT w (.slice none 0 0) [] := ⟨none, 0, [], rfl, Nat.le_refl _, ⟨rfl, by simp⟩, ⟨none, 0, rfl, by simp, fun _ => rfl, by simp⟩, fun q h => by cases h⟩
theorem DealsT.take {w : World} {p : Option Addr} {n c : Nat} {D : List (List Wr)} (h : DealsT w (.slice p n c) D) {k : Nat} (hk : k ≤ D.length) : DealsT w (.slice p k c) (D.take k) := by
  obtain ⟨p', c', R, hv, hc, hR, ⟨p2, c2, hv2, hl, hn, hcell⟩, ht⟩ := h
  cases hv
  rw [hR.1] at hv2
  cases hv2
  have hlD : (D.take k).length = k := by rw [List.length_take]; omega
  have hlR : (R.take k).length = k := by rw [List.length_take, hR.1]; omega
  refine ⟨p, c, R.take k, by rw [hlD], by rw [hlD]; omega, ⟨by rw [hlR, hlD], fun i r W hr hW => ?_⟩, ⟨p, c, by rw [hlR], by rw [hlR]; have := hR.1; omega, hn, fun i x hx => ?_⟩, ht⟩
  · rw [List.getElem?_take] at hr hW
    split at hr
    · rw [if_pos (by assumption)] at hW
      exact hR.2 i r W hr hW
    · cases hr
  · rw [List.getElem?_take] at hx
    split at hx
    · exact hcell i x hx
    · cases hx
/-- a transaction's two cells -/
theorem DealsT.at {w : World} {p : Option Addr} {n c : Nat} {D : List (List Wr)} (h : DealsT w (.slice p n c) D) {k : Nat} {W : List Wr} (hk : D[k]? = some W) :
    ∃ b off q l d, p = some ⟨b, off, none⟩ ∧ b < w.heap.size ∧ w.cell? ⟨b, off + k * 2, none⟩ = some (.slice q l d) ∧ w.cell? ⟨b, off + k * 2 + 1, none⟩ = some (.int .i64 ((recL W).length : Int)) ∧ InnerAt w (.slice q l d) W := by
  obtain ⟨p', c', R, hv, hc, hR, ⟨p2, c2, hv2, hl, hn, hcell⟩, ht⟩ := h
  cases hv
  rw [hR.1] at hv2
  cases hv2
  have hkD := (List.getElem?_eq_some_iff.1 hk).1
  have hkR : k < R.length := by rw [hR.1]; exact hkD
  obtain ⟨b, off, hp, hlt, h0⟩ := hcell k R[k] (List.getElem?_eq_getElem hkR)
  obtain ⟨h1, h2⟩ := hR.2 k R[k] W (List.getElem?_eq_getElem hkR) hk
  have c0 := h0 0 (by decide)
  have c1 := h0 1 (by decide)
  simp only [drowC, List.getElem?_cons_zero, List.getElem?_cons_succ, Nat.add_zero] at c0 c1
  rw [h2] at c1
  exact ⟨b, off, _, _, _, hp, hlt, c0, c1, h1⟩

/-! ### the house -/
/-- the value hv is the house of the state s -/
def HouseV (w : World) (hv : Value) (s : EM.St) : Prop := ∃ bi bb dv lv, hv = .agg #[bi, bb, dv, .int .i64 (s.last : Int), .bool s.op, lv] ∧ VolTy w bi bb s.base ∧ DealsT w dv s.deals ∧ InnerAt w lv s.l
theorem HouseV.bx {w w' : World} {hv : Value} {s : EM.St} (h : HouseV w hv s) (hb : Bx w w') : HouseV w' hv s := by
  obtain ⟨bi, bb, dv, lv, h1, h2, h3, h4⟩ := h
  exact ⟨bi, bb, dv, lv, h1, h2.bx hb, h3.bx hb, h4.bx hb⟩
theorem bytes_more {D : List (List Wr)} {k : Nat} {W : List Wr} (h : D[k]? = some W) : (bytesOf (D.take (k + 1))).length = (bytesOf (D.take k)).length + (recL W).length := by
  rw [List.take_add_one, h]
  unfold bytesOf
  rw [List.flatMap_append, List.length_append]
  simp

set_option maxRecDepth 100000 in
set_option maxHeartbeats 1000000 in
theorem length_any (hv : Value) (s : EM.St) (n : Nat) (hn : n ≤ s.deals.length) (hlog : (bytesOf s.deals).length ≤ 4000) (w : World) (h : HouseV w hv s) :
    Calls Try.prog 31 #[hv, .int .i64 (n : Int)] w fun e w' => e = .returned (.int .i64 ((bytesOf (s.deals.take n)).length : Int)) ∧ Below w.heap.size w w' := by
  obtain ⟨bi, bb, dv, lv, rfl, _, hd, _⟩ := h
  obtain ⟨p, c, hdv, hcD, hD47⟩ : ∃ p c, dv = .slice p s.deals.length c ∧ s.deals.length ≤ c ∧ s.deals.length ≤ 140737488355328 := by
    obtain ⟨p, c, _, h1, h2, hR, ⟨_, _, _, hl, _⟩, _⟩ := hd
    exact ⟨p, c, h1, h2, hR.1 ▸ hl⟩
  subst hdv
  obtain ⟨D, hD⟩ : ∃ D, D = s.deals := ⟨_, rfl⟩
  rw [← hD] at hd hn hlog hcD hD47 ⊢
  obtain ⟨W1, hW1⟩ : ∃ W, W = w.alloc (.cells #[bi, bb, .slice p D.length c, .int .i64 (s.last : Int), .bool s.op, lv] 47) := ⟨_, rfl⟩
  have hb1 : Below w.heap.size w W1 := by rw [hW1]; exact below_alloc (Below.refl _ _) _
  have hx : W1.cell? ⟨w.heap.size, 2, none⟩ = some (.slice p D.length c) := by rw [hW1]; simp
  have hN : w.heap.size < W1.heap.size := by rw [hW1]; simp
  have HD := Lib.hid hd
  have HW1 := Lib.hid hW1
  have HLOG := Lib.hid hlog
  have HX := Lib.hid hx
  clear hd hW1 hD hlog hx
  go_enter Try.func31, Try.ntmps31
  go_upto_region 1 with (fail)
  rw [← HW1.out]
  go_wp2
  go_loopw [5, 6] (fun sm i wr => ∃ k m : Nat, k ≤ n ∧ sm = .int .i64 (m : Int) ∧ i = .int .i64 (k : Int) ∧ m ≤ 4000 ∧ Hid (m = (bytesOf (D.take k)).length) ∧ Below W1.heap.size W1 wr) (fun _ i _ => n - (intOf i).toNat)
  case atStart => exact ⟨0, 0, Nat.zero_le _, rfl, rfl, Nat.zero_le _, Lib.hid (by simp [bytesOf]), Below.refl _ _⟩
  case round =>
    obtain ⟨k, m, hk, rfl, rfl, hm, HM, hbr⟩ := hrel
    by_cases hlt : k < n
    · obtain ⟨W, hW⟩ : ∃ W, D[k]? = some W := ⟨_, List.getElem?_eq_getElem (by omega)⟩
      obtain ⟨b, off, q, l, d, rfl, hbl, _, c1, _⟩ := HD.out.at hW
      have hbw : Below w.heap.size w wr := below_then hb1 hbr
      replace c1 := (hbw.cell (p := ⟨b, _, none⟩) hbl).trans c1
      have x1 := (hbr.cell (p := ⟨w.heap.size, 2, none⟩) hN).trans HX.out
      have hmore := bytes_more hW
      have hle := bytes_take D (k + 1)
      rw [← HM.out] at hmore
      have hml : m + (recL W).length ≤ 4000 := by have := HLOG.out; omega
      have HMORE := Lib.hid hmore.symm
      have hkD : (k : Int) < (D.length : Int) := by omega
      clear hmore hle hW
      go_wp2
      go_roundw
      case rel => exact ⟨k + 1, m + (recL W).length, by omega, by go_num, by go_num, hml, HMORE, hbr⟩
      case measure => simp [intOf]; omega
    · have hkn : k = n := by omega
      subst hkn
      have hm2 := HM.out
      go_wp2
      go_ret
      exact ⟨by rw [← hm2]; rfl, below_then hb1 hbr⟩
end Go.Proofs.Ythjaanhkmfiajac

/- The document's with: a write put among others in the order of blocks. Conditions: the writes are in the order of blocks; at most a thousand. -/
namespace Go.Proofs.Ythjaanhkmfiajac
open Go.RowKit LM

theorem Try.infoWriteW : (Try.prog.info? 61).map (fun i => (i.zero, i.size, i.bytes)) = some (some (.agg #[.int .i64 0, .string ⟨#[]⟩]), 2, 24) := by kernel_rfl

theorem putW_skip : ∀ (A B : List Wr) (w : Wr), (∀ x ∈ A, x.block < w.block) → EM.putW (A ++ B) w = A ++ EM.putW B w
  | [], B, w, _ => rfl
  | x :: A, B, w, h => by
    show (if x.block < w.block then x :: EM.putW (A ++ B) w else _) = _
    rw [if_pos (h x (by simp)), putW_skip A B w (fun y hy => h y (by simp [hy]))]
    rfl
/-- the loop's state: what stands already, whether the write is among it -/
def WithSt (L : List Wr) (x : Wr) (k : Nat) (out : List Wr) (done : Bool) : Prop :=
  (done = false ∧ out = L.take k ∧ ∀ y ∈ out, y.block < x.block) ∨ (done = true ∧ out ++ L.drop k = EM.putW L x ∧ ∀ y ∈ L.drop k, x.block < y.block)
theorem drop_at {L : List Wr} {k : Nat} {y : Wr} (h : L[k]? = some y) : L.drop k = y :: L.drop (k + 1) := by
  rw [← (List.getElem?_eq_some_iff.1 h).2]
  exact List.drop_eq_getElem_cons _
theorem up_tail {L : List Wr} (hup : L.Pairwise (fun x y => x.block < y.block)) {k : Nat} {y : Wr} (h : L[k]? = some y) : ∀ z ∈ L.drop (k + 1), y.block < z.block := by
  have h1 : (L.drop k).Pairwise (fun x y => x.block < y.block) := hup.drop
  rw [drop_at h] at h1
  exact (List.pairwise_cons.1 h1).1
theorem WithSt.lt {L : List Wr} {x y : Wr} {k : Nat} {out : List Wr} (h : WithSt L x k out false) (hk : L[k]? = some y) (hy : y.block < x.block) : WithSt L x (k + 1) (out ++ [y]) false := by
  rcases h with ⟨_, h1, h2⟩ | ⟨h, _⟩
  · refine .inl ⟨rfl, by rw [h1, List.take_add_one, hk]; rfl, fun z hz => ?_⟩
    rcases List.mem_append.1 hz with hz | hz
    · exact h2 z hz
    · rw [List.mem_singleton.1 hz]; exact hy
  · cases h
theorem WithSt.eq {L : List Wr} (hup : L.Pairwise (fun x y => x.block < y.block)) {x y : Wr} {k : Nat} {out : List Wr} (h : WithSt L x k out false) (hk : L[k]? = some y) (hy : y.block = x.block) : WithSt L x (k + 1) (out ++ [x]) true := by
  rcases h with ⟨_, h1, h2⟩ | ⟨h, _⟩
  · refine .inr ⟨rfl, ?_, fun z hz => by rw [← hy]; exact up_tail hup hk z hz⟩
    have e : L = out ++ L.drop k := by rw [h1, List.take_append_drop]
    have e2 : EM.putW L x = out ++ EM.putW (L.drop k) x := by
      rw [← putW_skip out (L.drop k) x h2, ← e]
    rw [e2, drop_at hk, List.append_assoc]
    congr 1
    show _ = if y.block < x.block then _ else if y.block = x.block then x :: L.drop (k + 1) else _
    rw [if_neg (by omega), if_pos hy]
    rfl
  · cases h
theorem WithSt.gt {L : List Wr} (hup : L.Pairwise (fun x y => x.block < y.block)) {x y : Wr} {k : Nat} {out : List Wr} (h : WithSt L x k out false) (hk : L[k]? = some y) (hy : x.block < y.block) : WithSt L x (k + 1) (out ++ [x] ++ [y]) true := by
  rcases h with ⟨_, h1, h2⟩ | ⟨h, _⟩
  · refine .inr ⟨rfl, ?_, fun z hz => by have := up_tail hup hk z hz; omega⟩
    have e : L = out ++ L.drop k := by rw [h1, List.take_append_drop]
    have e2 : EM.putW L x = out ++ EM.putW (L.drop k) x := by
      rw [← putW_skip out (L.drop k) x h2, ← e]
    rw [e2, drop_at hk, List.append_assoc, List.append_assoc]
    congr 1
    show _ = if y.block < x.block then _ else if y.block = x.block then _ else x :: y :: L.drop (k + 1)
    rw [if_neg (by omega), if_neg (by omega)]
    rfl
  · cases h
theorem WithSt.on {L : List Wr} {x y : Wr} {k : Nat} {out : List Wr} (h : WithSt L x k out true) (hk : L[k]? = some y) : x.block < y.block ∧ WithSt L x (k + 1) (out ++ [y]) true := by
  rcases h with ⟨h, _⟩ | ⟨_, h1, h2⟩
  · cases h
  · rw [drop_at hk] at h1 h2
    exact ⟨h2 y (by simp), .inr ⟨rfl, by rw [List.append_assoc]; exact h1, fun z hz => h2 z (by simp [hz])⟩⟩
theorem WithSt.fin {L : List Wr} {x : Wr} {out : List Wr} {done : Bool} (h : WithSt L x L.length out done) : (done = true ∧ out = EM.putW L x) ∨ (done = false ∧ out ++ [x] = EM.putW L x) := by
  rcases h with ⟨h, h1, h2⟩ | ⟨h, h1, h2⟩
  · refine .inr ⟨h, ?_⟩
    rw [List.take_length] at h1
    have := putW_skip out [] x h2
    rw [List.append_nil] at this
    rw [← h1, this]
    rfl
  · rw [List.drop_length, List.append_nil] at h1
    exact .inl ⟨h, h1⟩

set_option maxRecDepth 100000 in
set_option maxHeartbeats 2000000 in
theorem with_any (v : Value) (L : List Wr) (x : Wr) (w : World) (h : WritesAt w v L) (hup : L.Pairwise (fun x y => x.block < y.block)) (hlen : L.length ≤ 1000) :
    Calls Try.prog 27 #[v, .agg #[.int .i64 x.block, .string x.data]] w fun e w' => ∃ v', e = .returned v' ∧ OwnW w.heap.size 61 v' (EM.putW L x) w w' := by
  obtain ⟨i0, hi, hz0, hz1, hz2⟩ := info_parts Try.infoWriteW
  obtain ⟨p, cap, rfl, hl, _, hc⟩ := h
  obtain ⟨W1, hW1⟩ : ∃ W, W = w.alloc (.cells #[.int .i64 x.block, .string x.data] 61) := ⟨_, rfl⟩
  have hb1 : Below w.heap.size w W1 := by rw [hW1]; exact below_alloc (Below.refl _ _) _
  have hN : w.heap.size < W1.heap.size := by rw [hW1]; simp
  have x0 : W1.cell? ⟨w.heap.size, 0, none⟩ = some (.int .i64 x.block) := by rw [hW1]; simp
  have x1 : W1.cell? ⟨w.heap.size, 1, none⟩ = some (.string x.data) := by rw [hW1]; simp
  have HC := Lib.hid hc
  have HUP := Lib.hid hup
  have HW1 := Lib.hid hW1
  have HX0 := Lib.hid x0
  have HX1 := Lib.hid x1
  clear hc hup hW1 x0 x1
  go_enter Try.func27, Try.ntmps27
  go_upto_region 1 with (fail)
  rw [← HW1.out]
  go_wp2
  go_loopw [5, 6, 7] (fun o dn i wr => ∃ (k : Nat) (out : List Wr) (done : Bool), k ≤ L.length ∧ i = .int .i64 (k : Int) ∧ dn = .bool done ∧ out.length ≤ 2 * k ∧ Hid (WithSt L x k out done) ∧ OwnW W1.heap.size 61 o out W1 wr) (fun _ _ i _ => L.length - (intOf i).toNat)
  case atStart => exact ⟨0, [], false, Nat.zero_le _, rfl, rfl, by simp, Lib.hid (.inl ⟨rfl, rfl, by simp⟩), OwnW.nil (Below.refl _ _) (Nat.le_refl _)⟩
  case round =>
    obtain ⟨k, out, done, hk, rfl, rfl, hol, HS, hown⟩ := hrel
    have hbr : Below W1.heap.size W1 wr := hown.below
    have hbw := below_then hb1 hbr
    have x0 := (hbr.cell (p := ⟨w.heap.size, 0, none⟩) hN).trans HX0.out
    have x1 := (hbr.cell (p := ⟨w.heap.size, 1, none⟩) hN).trans HX1.out
    have HOWN := Lib.hid hown
    clear hown
    by_cases hlt : k < L.length
    · obtain ⟨y, hy⟩ : ∃ y, L[k]? = some y := ⟨L[k], List.getElem?_eq_getElem hlt⟩
      obtain ⟨b, off, rfl, hbl, c0, c1⟩ := HC.out k y hy
      have HC0 := Lib.hid c0
      have HC1 := Lib.hid c1
      replace c0 := (hbw.cell (p := ⟨b, _, none⟩) hbl).trans c0
      replace c1 := (hbw.cell (p := ⟨b, _, none⟩) hbl).trans c1
      have HY := Lib.hid hy
      have hwk := IntWalk.i64_in ((k : Int) + 1) (by omega)
      clear hy
      cases done with
      | false =>
        rcases Int.lt_trichotomy y.block x.block with hc | hc | hc
        · have hst := HS.out.lt HY.out hc
          have HST := Lib.hid hst
          have hd : decide (x.block ≤ y.block) = false := by simp; omega
          have hd2 : (y.block != x.block) = true := by simp; omega
          clear hst hc
          go_wp2
          go_quiet (fail)
          go_wp2
          go_quiet (fail)
          go_wp2_with (at_builtin; refine wpList_own_write rfl (.tmp 38) (.tmp 43) 37 rfl W1.heap.size 61 i0 _ Try.underlying37 hi hz0 rfl hz1 hz2 _ out rfl W1 _ y (HOWN.out.past (by first | exact below_dr (Below.refl _ _) _ | exact below_dr (below_dr (Below.refl _ _) _) _ | exact Below.refl _ _)) _ rfl rfl (by simp; omega) ?_; intro v6 w6 ho6)
          go_roundw
          case rel => exact ⟨k + 1, out ++ [y], false, by omega, by go_num, rfl, by simp; omega, HST, ho6⟩
          case measure => simp [intOf]; omega
        · have hst := HS.out.eq HUP.out HY.out hc
          have HST := Lib.hid hst
          have hd : decide (x.block ≤ y.block) = true := by simp; omega
          have hd2 : (y.block != x.block) = false := by simp; omega
          clear hst hc
          go_wp2
          go_quiet (fail)
          go_wp2_with (at_builtin; refine wpList_own_write rfl (.tmp 26) (.tmp 28) 37 rfl W1.heap.size 61 i0 _ Try.underlying37 hi hz0 rfl hz1 hz2 _ out rfl W1 _ x (HOWN.out.past (by first | exact Below.refl _ _ | exact below_dr (Below.refl _ _) _)) _ rfl rfl (by omega) ?_; intro v5 w5 ho5; have y0 := (ho5.below.cell (p := ⟨w.heap.size, 0, none⟩) hN).trans HX0.out; have d0 := ((below_then hb1 ho5.below).cell (p := ⟨b, _, none⟩) hbl).trans HC0.out; have d1 := ((below_then hb1 ho5.below).cell (p := ⟨b, _, none⟩) hbl).trans HC1.out; have HO5 := Lib.hid ho5; clear ho5)
          go_quiet (fail)
          go_wp2
          go_roundw
          case rel => exact ⟨k + 1, out ++ [x], true, by omega, by first | rfl | go_num, rfl, by simp; omega, HST, HO5.out.past (by first | exact below_dr (Below.refl _ _) _ | exact below_dr (below_dr (Below.refl _ _) _) _ | exact Below.refl _ _)⟩
          case measure => simp [intOf]; omega
        · have hst := HS.out.gt HUP.out HY.out hc
          have HST := Lib.hid hst
          have hd : decide (x.block ≤ y.block) = true := by simp; omega
          have hd2 : (y.block != x.block) = true := by simp; omega
          clear hst hc
          go_wp2
          go_quiet (fail)
          go_wp2_with (at_builtin; refine wpList_own_write rfl (.tmp 26) (.tmp 28) 37 rfl W1.heap.size 61 i0 _ Try.underlying37 hi hz0 rfl hz1 hz2 _ out rfl W1 _ x (HOWN.out.past (by first | exact Below.refl _ _ | exact below_dr (Below.refl _ _) _)) _ rfl rfl (by omega) ?_; intro v5 w5 ho5; have y0 := (ho5.below.cell (p := ⟨w.heap.size, 0, none⟩) hN).trans HX0.out; have d0 := ((below_then hb1 ho5.below).cell (p := ⟨b, _, none⟩) hbl).trans HC0.out; have d1 := ((below_then hb1 ho5.below).cell (p := ⟨b, _, none⟩) hbl).trans HC1.out; have HO5 := Lib.hid ho5; clear ho5)
          go_quiet (fail)
          go_wp2_with (at_builtin; refine wpList_own_write rfl (.tmp 38) (.tmp 43) 37 rfl W1.heap.size 61 i0 _ Try.underlying37 hi hz0 rfl hz1 hz2 _ (out ++ [x]) rfl W1 _ y (HO5.out.past (by first | exact below_dr (Below.refl _ _) _ | exact below_dr (below_dr (Below.refl _ _) _) _ | exact Below.refl _ _)) _ rfl rfl (by simp; omega) ?_; intro v6 w6 ho6)
          go_roundw
          case rel => exact ⟨k + 1, out ++ [x] ++ [y], true, by omega, by first | rfl | go_num, rfl, by simp; omega, HST, ho6⟩
          case measure => simp [intOf]; omega
      | true =>
        obtain ⟨hc, hst⟩ := HS.out.on HY.out
        have HST := Lib.hid hst
        have hd2 : (y.block != x.block) = true := by simp; omega
        clear hst hc
        go_wp2
        go_quiet (fail)
        go_wp2
        go_quiet (fail)
        go_wp2_with (at_builtin; refine wpList_own_write rfl (.tmp 38) (.tmp 43) 37 rfl W1.heap.size 61 i0 _ Try.underlying37 hi hz0 rfl hz1 hz2 _ out rfl W1 _ y (HOWN.out.past (by first | exact below_dr (Below.refl _ _) _ | exact below_dr (below_dr (Below.refl _ _) _) _ | exact Below.refl _ _)) _ rfl rfl (by simp; omega) ?_; intro v6 w6 ho6)
        go_roundw
        case rel => exact ⟨k + 1, out ++ [y], true, by omega, by go_num, rfl, by simp; omega, HST, ho6⟩
        case measure => simp [intOf]; omega
    · have hke : k = L.length := by omega
      have hfin := HS.out
      rw [hke] at hfin
      rcases hfin.fin with ⟨rfl, hf⟩ | ⟨rfl, hf⟩
      · have HF := Lib.hid hf
        clear hfin hf
        go_wp2
        go_ret
        exact ⟨_, rfl, (HOWN.out.cast HF.out).lower hb1.size hb1⟩
      · have HF := Lib.hid hf
        clear hfin hf
        go_wp2_with (at_builtin; refine wpList_own_write rfl (.tmp 47) (.tmp 49) 37 rfl W1.heap.size 61 i0 _ Try.underlying37 hi hz0 rfl hz1 hz2 _ out rfl W1 _ x HOWN.out _ rfl rfl (by omega) ?_; intro v6 w6 ho6)
        go_ret
        exact ⟨_, rfl, (ho6.cast HF.out).lower hb1.size hb1⟩
end Go.Proofs.Ythjaanhkmfiajac

/- The document's Now: the volume of a house. Condition: the house's transactions could be applied one by one. -/
namespace Go.Proofs.Ythjaanhkmfiajac
open Go.RowKit LM EM

/-- the state of Now's loop -/
def NowSt (w : World) (G0 G1 G2 : Nat) (dv : Value) (V : Vol) (D : List (List Wr)) (k : Nat) (wr : World) : Prop :=
  ∃ p c q d, VBox wr G2 (.slice p (after V (D.take k)).items.length c) (.slice q (after V (D.take k)).blocks.length d) ∧ VolTy wr (.slice p (after V (D.take k)).items.length c) (.slice q (after V (D.take k)).blocks.length d) (after V (D.take k)) ∧ VBox wr G1 (.slice none 0 0) (.slice none 0 0) ∧ wr.cell? ⟨G0, 2, none⟩ = some dv ∧ Below w.heap.size w wr
theorem set2_far {w : World} {N G j : Nat} {r : Option Value} (hne : N ≠ G) (h : w.cell? ⟨G, j, none⟩ = r) (a b : Value) : ((w.setCell ⟨N, 0, none⟩ a).setCell ⟨N, 1, none⟩ b).cell? ⟨G, j, none⟩ = r := by
  rw [World.cell?_setCell_far _ _ _ _ hne, World.cell?_setCell_far _ _ _ _ hne]
  exact h
theorem cell_lt {w : World} {g j : Nat} {x : Value} (h : w.cell? ⟨g, j, none⟩ = some x) : g < w.heap.size := by
  by_cases hg : g < w.heap.size
  · exact hg
  · have : w.heap[g]? = none := by simp; omega
    simp [World.cell?, this] at h

set_option maxRecDepth 100000 in
set_option maxHeartbeats 4000000 in
theorem Now_any (hv : Value) (s : EM.St) (w : World) (h : HouseV w hv s) (hok : VOk s.base) (hD : AllOk s.base s.deals) :
    Calls Try.prog 14 #[hv] w fun e w' => ∃ x y, e = .returned (.agg #[x, y]) ∧ VolTy w' x y s.now ∧ Below w.heap.size w w' := by
  obtain ⟨bi, bb, dv, lv, rfl, hty, hdl, _⟩ := h
  obtain ⟨pa, ca, pb, cb, rfl, rfl⟩ := hty.slices
  obtain ⟨pd, cd, hdv, hD47⟩ : ∃ p c, dv = .slice p s.deals.length c ∧ s.deals.length ≤ 140737488355328 := by
    obtain ⟨p, c, _, h1, h2, hR, ⟨_, _, _, hl, _⟩, _⟩ := hdl
    exact ⟨p, c, h1, hR.1 ▸ hl⟩
  subst hdv
  have hnow : s.now = after s.base s.deals := rfl
  rw [hnow]
  obtain ⟨D, hDD⟩ : ∃ D, D = s.deals := ⟨_, rfl⟩
  obtain ⟨V, hVV⟩ : ∃ V, V = s.base := ⟨_, rfl⟩
  rw [← hDD] at hdl hD hD47 ⊢
  rw [← hVV] at hty hok hD ⊢
  obtain ⟨G0, hG0⟩ : ∃ G, G = w.heap.size := ⟨_, rfl⟩
  obtain ⟨G1, hG1⟩ : ∃ G, G = w.heap.size + 1 := ⟨_, rfl⟩
  obtain ⟨G2, hG2⟩ : ∃ G, G = w.heap.size + 1 + 1 := ⟨_, rfl⟩
  obtain ⟨Wa, hWa⟩ : ∃ W, W = w.alloc (.cells #[.slice pa V.items.length ca, .slice pb V.blocks.length cb, .slice pd D.length cd, .int .i64 (s.last : Int), .bool s.op, lv] 47) := ⟨_, rfl⟩
  obtain ⟨Wb, hWb⟩ : ∃ W, W = Wa.alloc (.cells #[.slice none 0 0, .slice none 0 0] 27) := ⟨_, rfl⟩
  obtain ⟨W1, hW1⟩ : ∃ W, W = Wb.alloc (.cells #[.slice pa V.items.length ca, .slice pb V.blocks.length cb] 27) := ⟨_, rfl⟩
  have hsa : Wa.heap.size = w.heap.size + 1 := by rw [hWa]; simp
  have hsb : Wb.heap.size = w.heap.size + 1 + 1 := by rw [hWb]; simp [hsa]
  have hba : Below w.heap.size w Wa := by rw [hWa]; exact below_alloc (Below.refl _ _) _
  have hbb : Below w.heap.size w Wb := by rw [hWb]; exact below_alloc hba _
  have hb1 : Below w.heap.size w W1 := by rw [hW1]; exact below_alloc hbb _
  have hst : NowSt w G0 G1 G2 (.slice pd D.length cd) V D 0 W1 := by
    refine ⟨pa, ca, pb, cb, ?_, hty.keep hb1, ?_, ?_, hb1⟩
    · rw [hW1, hG2, ← hsb]; exact VBox.new _ _ _
    · have : VBox Wb Wa.heap.size (.slice none 0 0) (.slice none 0 0) := by rw [hWb]; exact VBox.new _ _ _
      rw [hsa, ← hG1] at this
      rw [hW1]
      exact this.keep (below_alloc (Below.refl _ _) _)
    · have h0 : Wa.cell? ⟨w.heap.size, 2, none⟩ = some (.slice pd D.length cd) := by rw [hWa]; simp
      have hlt := cell_lt h0
      rw [hW1, hWb, hG0, Below.cell (below_alloc (below_alloc (Below.refl _ _) _) _) (p := ⟨w.heap.size, 2, none⟩) hlt]
      exact h0
  have HST := Lib.hid hst
  have HDL := Lib.hid hdl
  have HOK := Lib.hid hok
  have HD := Lib.hid hD
  have HG := Lib.hid (show Wb.alloc (.cells #[.slice pa V.items.length ca, .slice pb V.blocks.length cb] 27) = W1 from hW1.symm)
  have HGb := Lib.hid (show Wa.alloc (.cells #[.slice none 0 0, .slice none 0 0] 27) = Wb from hWb.symm)
  have HGa := Lib.hid (show w.alloc (.cells #[.slice pa V.items.length ca, .slice pb V.blocks.length cb, .slice pd D.length cd, .int .i64 (s.last : Int), .bool s.op, lv] 47) = Wa from hWa.symm)
  have HG0 := Lib.hid hG0.symm
  have HG1 := Lib.hid hG1.symm
  have HG2 := Lib.hid hG2.symm
  have hwG : w.heap.size ≤ G0 ∧ w.heap.size ≤ G1 ∧ w.heap.size ≤ G2 ∧ G0 < G1 ∧ G1 < G2 := by omega
  clear hst hdl hok hD hW1 hWb hWa hsa hsb hba hbb hb1 hty hnow hDD hVV hG0 hG1 hG2
  go_enter Try.func14, Try.ntmps14
  go_upto_region 2 with (fail)
  rw [HGa.out, HGb.out, HG.out, HG2.out, HG1.out, HG0.out]
  clear HG HGb HGa HG0 HG1 HG2
  go_wp2
  go_loopw [4] (fun i wr => ∃ k : Nat, k ≤ D.length ∧ i = .int .i64 (k : Int) ∧ Hid (NowSt w G0 G1 G2 (.slice pd D.length cd) V D k wr)) (fun i _ => D.length - (intOf i).toNat)
  case atStart => exact ⟨0, Nat.zero_le _, rfl, HST⟩
  case round =>
    clear HST
    obtain ⟨k, hk, rfl, HR⟩ := hrel
    obtain ⟨p, c, q, d, hb2, hty, hb1, hx, hb⟩ := HR.out
    obtain ⟨c0, c1, f0, f1⟩ := hb2.at
    have hl2 := hb2.lt
    have hl0 := cell_lt hx
    have hVk := (AllOk.ok (D := D.take k) HOK.out (HD.out.take k)).1
    obtain ⟨Vk, hVk'⟩ : ∃ X, X = after V (D.take k) := ⟨_, rfl⟩
    rw [← hVk'] at hb2 hty c0 c1 hVk
    have HB2 := Lib.hid hb2
    have HTY := Lib.hid hty
    have HB1 := Lib.hid hb1
    have HB := Lib.hid hb
    have HVK := Lib.hid hVk'
    have HX := Lib.hid hx
    clear hb2 hty hb1 HR hVk'
    by_cases hlt : k < D.length
    · obtain ⟨W, hW⟩ : ∃ W, D[k]? = some W := ⟨_, List.getElem?_eq_getElem hlt⟩
      obtain ⟨gu, off, qq, l, dd, rfl, hgl, d0, _, hwr⟩ := HDL.out.at hW
      have HD0 := Lib.hid d0
      replace d0 := (hb.cell (p := ⟨gu, _, none⟩) hgl).trans d0
      have hglr := Nat.lt_of_lt_of_le hgl hb.size
      have h0 : (applied Vk W).2 = 0 := by rw [HVK.out]; exact HD.out.at hW
      have hap : ∀ w', Below wr.heap.size wr w' → Calls Try.prog 29 #[.agg #[.slice p Vk.items.length c, .slice q Vk.blocks.length d], .slice qq l dd] w' (RetVol (applied Vk W).1 0 w') := by
        intro w' hb'
        have := AppliedOf_any _ (.slice qq l dd) Vk W w' (HTY.out.keep hb').at ((hwr.keep (hb.trans (hb'.mono hb.size))).1)
        rw [h0] at this
        exact this
      have hnew := (apply_valid hVk h0).1.small
      have hstep : after V (D.take (k + 1)) = (applied Vk W).1 := by rw [take_snoc hW, after_snoc, HVK.out]
      obtain ⟨Vn, hVn⟩ : ∃ X, X = (applied Vk W).1 := ⟨_, rfl⟩
      rw [← hVn] at hap hnew hstep
      have HAP := Lib.hid hap
      have HS := Lib.hid hstep
      have hkD : (k : Int) < (D.length : Int) := by omega
      have hwk := IntWalk.i64_in ((k : Int) + 1) (by omega)
      have HC0 := Lib.hid c0
      have HC1 := Lib.hid c1
      have hD0 := Lib.hid d0
      clear hap hstep hW h0 hVn hVk hwr
      go_wp2
      go_region_with (go_at_call 29; refine (HAP.out _ (Below.refl _ _).drew).mono ?_; rintro e w2 ⟨vi, vz, rfl, ho⟩; obtain ⟨pi, ki, rfl⟩ := ho.1.isSlice; obtain ⟨pz, kz, rfl⟩ := ho.2.1.isSlice; have hbn : Below wr.heap.size wr w2 := below_then (Below.refl _ _).drew ho.below; have e0 := (hbn.cell (p := ⟨G0, 2, none⟩) hl0).trans HX.out; have e1 := (hbn.cell (p := ⟨gu, _, none⟩) hglr).trans hD0.out; have s0 := set2_far (N := G2) (by omega) e0; have s1 := set2_far (N := G2) (by omega) e1; have e4 := (HB2.out.keep hbn).at; obtain ⟨e2, e3, e42, e43⟩ := e4; have HBN := Lib.hid hbn; have HO := Lib.hid ho; clear hbn ho)
      all_goals
        go_wp2
        go_roundw
        case rel =>
          refine ⟨k + 1, by omega, by go_num, Lib.hid ?_⟩
          unfold NowSt
          rw [HS.out]
          have ht := HO.out.ty (by omega) (by omega)
          have b2 := HB2.out.keep HBN.out
          have b1 := HB1.out.keep HBN.out
          have hbb := below_then HB.out HBN.out
          refine ⟨pi, ki, pz, kz, b2.set _ _, ht.box b2 _ _, ?_, ?_, (hbb.setCell (p := ⟨G2, 0, none⟩) (by show _ ≤ G2; omega) _).setCell (p := ⟨G2, 1, none⟩) (by show _ ≤ G2; omega) _⟩
          · show VBox ((w2.setCell ⟨G2, 0, none⟩ _).setCell ⟨G2, 1, none⟩ _) G1 _ _
            unfold VBox at b1 ⊢
            rw [Below.heap_setCell _ _ _ _ (by show G1 ≠ G2; omega), Below.heap_setCell _ _ _ _ (by show G1 ≠ G2; omega)]
            exact b1
          · exact s0 _ _
        case measure => simp [intOf]; omega
    · have hkl : k = D.length := by omega
      have HV2 := HVK.out
      rw [hkl, List.take_length] at HV2
      have HVV := Lib.hid HV2
      obtain ⟨e40, e41, e42, e43⟩ := HB1.out.at
      clear HV2 hkl HVK
      go_wp2
      have hfin : VolTy ((wr.setCell ⟨G1, 0, none⟩ (.slice p Vk.items.length c)).setCell ⟨G1, 1, none⟩ (.slice q Vk.blocks.length d)) (.slice p Vk.items.length c) (.slice q Vk.blocks.length d) (after V D) := by
        rw [← HVV.out]
        exact HTY.out.box HB1.out _ _
      exact bodyPost_ret (v := .agg #[.slice p Vk.items.length c, .slice q Vk.blocks.length d]) (by simp [results, Try.results14, go_sem, e40, e41]) rfl
        ⟨_, _, rfl, hfin, (HB.out.setCell (p := ⟨G1, 0, none⟩) (by show _ ≤ G1; omega) _).setCell (p := ⟨G1, 1, none⟩) (by show _ ≤ G1; omega) _⟩
end Go.Proofs.Ythjaanhkmfiajac

/- What the walks of the document's ActedOf share: the boxes that it lays, what it returns. No condition but those in the statements. -/
namespace Go.Proofs.Ythjaanhkmfiajac
open Go.RowKit LM EM

theorem RowAt.fz {w : World} {g : Nat} {e : TypeId} {cur : Array Value} (h : RowAt w g e cur) : ∀ j, w.frozen? ⟨g, j, none⟩ = false := by
  intro j
  unfold RowAt at h
  simp [World.frozen?, h]
theorem DealsT.slice {w : World} {v : Value} {D : List (List Wr)} (h : DealsT w v D) : ∃ p c, v = .slice p D.length c ∧ D.length ≤ c ∧ D.length ≤ 140737488355328 := by
  obtain ⟨p, c, _, h1, h2, hR, ⟨_, _, _, hl, _⟩, _⟩ := h
  exact ⟨p, c, h1, h2, hR.1 ▸ hl⟩
theorem InnerAt.slice {w : World} {u : Value} {W : List Wr} (h : InnerAt w u W) : ∃ p c, u = .slice p W.length c := by
  obtain ⟨⟨p, c, h1, _⟩, _⟩ := h
  exact ⟨p, c, h1⟩
def boxes (w : World) (bi bb dv la op lv k b d p : Value) : World :=
  ((((w.alloc (.cells #[bi, bb, dv, la, op, lv] 47)).alloc (.cells #[k, b, d, p] 41)).alloc (.cells #[.slice none 0 0, .slice none 0 0, .slice none 0 0, .int .i64 0, .bool false, .slice none 0 0] 47)).alloc (.cells #[.int .i64 0, .string ⟨#[]⟩, .int .i64 0, .int .i64 0, .int .i64 0] 43)).alloc (.cells #[.int .i64 0, .string ⟨#[]⟩, .int .i64 0, .int .i64 0, .int .i64 0] 43)
theorem row_new_at (w : World) (g : Nat) (hg : g = w.heap.size) (cs : Array Value) (T : TypeId) : RowAt (w.alloc (.cells cs T)) g T cs := by
  subst hg
  show (w.heap.push _)[w.heap.size]? = _
  simp
theorem boxes_at {w W5 : World} {bi bb dv la op lv k b d p : Value} (h : W5 = boxes w bi bb dv la op lv k b d p) :
    RowAt W5 w.heap.size 47 #[bi, bb, dv, la, op, lv] ∧ RowAt W5 (w.heap.size + 1) 41 #[k, b, d, p] ∧ RowAt W5 (w.heap.size + 1 + 1) 47 #[.slice none 0 0, .slice none 0 0, .slice none 0 0, .int .i64 0, .bool false, .slice none 0 0] ∧
    RowAt W5 (w.heap.size + 1 + 1 + 1) 43 #[.int .i64 0, .string ⟨#[]⟩, .int .i64 0, .int .i64 0, .int .i64 0] ∧ RowAt W5 (w.heap.size + 1 + 1 + 1 + 1) 43 #[.int .i64 0, .string ⟨#[]⟩, .int .i64 0, .int .i64 0, .int .i64 0] ∧ W5.heap.size = w.heap.size + 1 + 1 + 1 + 1 + 1 ∧ Below w.heap.size w W5 := by
  subst h
  unfold boxes
  refine ⟨?_, ?_, ?_, ?_, ?_, by simp, below_alloc (below_alloc (below_alloc (below_alloc (below_alloc (Below.refl _ _) _) _) _) _) _⟩
  · exact ((((row_new_at w _ rfl _ _).alloc _).alloc _).alloc _).alloc _
  · exact (((row_new_at _ _ (by simp) _ _).alloc _).alloc _).alloc _
  · exact ((row_new_at _ _ (by simp) _ _).alloc _).alloc _
  · exact (row_new_at _ _ (by simp) _ _).alloc _
  · exact row_new_at _ _ (by simp) _ _
theorem Trk.first {G0 G1 G2 G3 G4 : Nat} {w W5 W7 : World} {c0 c1 c2 c3 c4 : Array Value} (hb5 : Below w.heap.size w W5) (hb57 : Below W5.heap.size W5 W7) (hg : w.heap.size ≤ G0 ∧ w.heap.size ≤ G1 ∧ w.heap.size ≤ G2 ∧ w.heap.size ≤ G3 ∧ w.heap.size ≤ G4) (r0 : RowAt W5 G0 47 c0) (r1 : RowAt W5 G1 41 c1) (r2 : RowAt W5 G2 47 c2)
    (r3 : RowAt W5 G3 43 c3) (r4 : RowAt W5 G4 43 c4) : Trk w.heap.size w W7 [G0, G1, G2, G3, G4] W7 := by
  obtain ⟨g0, g1, g2, g3, g4⟩ := hg
  have hs : w.heap.size ≤ W5.heap.size := hb5.size
  refine ⟨Bx.refl _, hb5.trans (hb57.mono hs), Nat.le_trans hs hb57.size, fun g hg => ?_⟩
  simp only [List.mem_cons, List.not_mem_nil, or_false] at hg
  rcases hg with rfl | rfl | rfl | rfl | rfl
  · exact ⟨g0, BoxTy.keep ⟨_, _, _, r0, by unfold Hard; decide⟩ hb57⟩
  · exact ⟨g1, BoxTy.keep ⟨_, _, _, r1, by unfold Hard; decide⟩ hb57⟩
  · exact ⟨g2, BoxTy.keep ⟨_, _, _, r2, by unfold Hard; decide⟩ hb57⟩
  · exact ⟨g3, BoxTy.keep ⟨_, _, _, r3, by unfold Hard; decide⟩ hb57⟩
  · exact ⟨g4, BoxTy.keep ⟨_, _, _, r4, by unfold Hard; decide⟩ hb57⟩
/-- what ActedOf returns -/
def ActedRet (s : EM.St) (a : EM.Act) (w : World) (e : Ending) (w' : World) : Prop :=
  ∃ hv', e = .returned (.tuple #[hv', .agg #[.int .i64 (EM.step s a).2.code, .string (EM.step s a).2.data, .int .i64 (EM.step s a).2.items, .int .i64 (EM.step s a).2.log, .int .i64 (EM.step s a).2.count]]) ∧ HouseV w' hv' (EM.step s a).1 ∧ Below w.heap.size w w'
theorem acted {s t : EM.St} {a : EM.Act} {z : EM.Ans} {w w' W7 : World} {bs : List Nat} {p q r u : Value} (hs : EM.step s a = (t, z)) (hT : Trk w.heap.size w W7 bs w') (h1 : VolTy W7 p q t.base) (h2 : DealsT W7 r t.deals) (h3 : InnerAt W7 u t.l) :
    ActedRet s a w (.returned (.tuple #[.agg #[p, q, r, .int .i64 (t.last : Int), .bool t.op, u], .agg #[.int .i64 z.code, .string z.data, .int .i64 z.items, .int .i64 z.log, .int .i64 z.count]])) w' := by
  unfold ActedRet
  rw [hs]
  exact ⟨_, rfl, ⟨p, q, r, u, rfl, h1.bx hT.1, h2.bx hT.1, h3.bx hT.1⟩, hT.2.1⟩
theorem RowAt.far {w : World} {g g' j : Nat} {e : TypeId} {cur : Array Value} {x : Value} (h : RowAt w g e cur) (hne : ¬ g = g') : RowAt (w.setCell ⟨g', j, none⟩ x) g e cur := by
  unfold RowAt at h ⊢
  rw [Below.heap_setCell _ _ _ _ hne]
  exact h
abbrev hset6 (w : World) (G : Nat) (a b c d e f : Value) : World := (((((w.setCell ⟨G, 0, none⟩ a).setCell ⟨G, 1, none⟩ b).setCell ⟨G, 2, none⟩ c).setCell ⟨G, 3, none⟩ d).setCell ⟨G, 4, none⟩ e).setCell ⟨G, 5, none⟩ f
abbrev hset5 (w : World) (G : Nat) (a b c d e : Value) : World := ((((w.setCell ⟨G, 0, none⟩ a).setCell ⟨G, 1, none⟩ b).setCell ⟨G, 2, none⟩ c).setCell ⟨G, 3, none⟩ d).setCell ⟨G, 4, none⟩ e
theorem row_hset6 {w : World} {G : Nat} {T : TypeId} {x0 x1 x2 x3 x4 x5 : Value} (h : RowAt w G T #[x0, x1, x2, x3, x4, x5]) (a b c d e f : Value) : RowAt (hset6 w G a b c d e f) G T #[a, b, c, d, e, f] := by
  unfold RowAt at h ⊢
  simp only [World.setCell, Array.getElem?_modify, if_true, h, Option.map_some]
  simp
theorem row_hset5 {w : World} {G : Nat} {T : TypeId} {x0 x1 x2 x3 x4 : Value} (h : RowAt w G T #[x0, x1, x2, x3, x4]) (a b c d e : Value) : RowAt (hset5 w G a b c d e) G T #[a, b, c, d, e] := by
  unfold RowAt at h ⊢
  simp only [World.setCell, Array.getElem?_modify, if_true, h, Option.map_some]
  simp
theorem row_fin {X : World} {G2 G3 : Nat} (h23 : ¬ G2 = G3) (h2 : RowAt X G2 47 #[.slice none 0 0, .slice none 0 0, .slice none 0 0, .int .i64 0, .bool false, .slice none 0 0]) (h3 : RowAt X G3 43 #[.int .i64 0, .string ⟨#[]⟩, .int .i64 0, .int .i64 0, .int .i64 0]) (a b c d e f p q r s t : Value) :
    RowAt (hset5 (hset6 X G2 a b c d e f) G3 p q r s t) G2 47 #[a, b, c, d, e, f] ∧ RowAt (hset5 (hset6 X G2 a b c d e f) G3 p q r s t) G3 43 #[p, q, r, s, t] := by
  have h32 : ¬ G3 = G2 := fun e => h23 e.symm
  exact ⟨((((((row_hset6 h2 a b c d e f).far h23).far h23).far h23).far h23).far h23), row_hset5 ((((((h3.far h32).far h32).far h32).far h32).far h32).far h32) p q r s t⟩
theorem ended {act : Act} {W : World} {G2 G3 : Nat} {a b c d e f p q r s t : Value} {post : Ending → World → Prop} (h4 : act.tmps[4]? = some (.pointer (some ⟨G2, 0, none⟩))) (h5 : act.tmps[5]? = some (.pointer (some ⟨G3, 0, none⟩))) (hd : act.defers = [])
    (hP : RowAt W G2 47 #[a, b, c, d, e, f]) (hQ : RowAt W G3 43 #[p, q, r, s, t]) (hpost : post (.returned (.tuple #[.agg #[a, b, c, d, e, f], .agg #[p, q, r, s, t]])) W) :
    bodyPost Try.prog Try.f12 post Exit.ret act W := by
  have a0 := hP.cell 0
  have a1 := hP.cell 1
  have a2 := hP.cell 2
  have a3 := hP.cell 3
  have a4 := hP.cell 4
  have a5 := hP.cell 5
  have b0 := hQ.cell 0
  have b1 := hQ.cell 1
  have b2 := hQ.cell 2
  have b3 := hQ.cell 3
  have b4 := hQ.cell 4
  simp only [List.getElem?_toArray, List.getElem?_cons_zero, List.getElem?_cons_succ] at a0 a1 a2 a3 a4 a5 b0 b1 b2 b3 b4
  exact bodyPost_ret (v := .tuple #[.agg #[a, b, c, d, e, f], .agg #[p, q, r, s, t]]) (by simp [results, Try.results12, go_sem, h4, h5, a0, a1, a2, a3, a4, a5, b0, b1, b2, b3, b4]) hd hpost
theorem RowAt.drewN {w : World} {g : Nat} {e : TypeId} {cur : Array Value} (h : RowAt w g e cur) (n : Nat) : RowAt (w.drewN n) g e cur := h
theorem RowAt.put {w : World} {g j : Nat} {e : TypeId} {cur : Array Value} (h : RowAt w g e cur) (x : Value) : RowAt (w.setCell ⟨g, j, none⟩ x) g e (cur.setIfInBounds j x) := by
  unfold RowAt at h ⊢
  simp [World.setCell, Array.getElem?_modify, h]
theorem box_facts {w : World} {G0 G1 G2 G3 G4 G7 : Nat} {a0 a1 a2 a3 a4 a5 b0 b1 b2 b3 c0 c1 c2 c3 c4 c5 d0 d1 d2 d3 d4 e0 e1 e2 e3 e4 f0 f1 : Value} (q0 : RowAt w G0 47 #[a0, a1, a2, a3, a4, a5]) (q1 : RowAt w G1 41 #[b0, b1, b2, b3]) (q2 : RowAt w G2 47 #[c0, c1, c2, c3, c4, c5]) (q3 : RowAt w G3 43 #[d0, d1, d2, d3, d4]) (q4 : RowAt w G4 43 #[e0, e1, e2, e3, e4]) (q7 : RowAt w G7 27 #[f0, f1]) :
    (w.cell? ⟨G0, 0, none⟩ = some a0 ∧ w.cell? ⟨G0, 1, none⟩ = some a1 ∧ w.cell? ⟨G0, 2, none⟩ = some a2 ∧ w.cell? ⟨G0, 3, none⟩ = some a3 ∧ w.cell? ⟨G0, 4, none⟩ = some a4 ∧ w.cell? ⟨G0, 5, none⟩ = some a5) ∧ (w.cell? ⟨G1, 0, none⟩ = some b0 ∧ w.cell? ⟨G1, 1, none⟩ = some b1 ∧ w.cell? ⟨G1, 2, none⟩ = some b2 ∧ w.cell? ⟨G1, 3, none⟩ = some b3) ∧ (w.cell? ⟨G2, 0, none⟩ = some c0 ∧ w.cell? ⟨G2, 1, none⟩ = some c1 ∧ w.cell? ⟨G2, 2, none⟩ = some c2 ∧ w.cell? ⟨G2, 3, none⟩ = some c3 ∧ w.cell? ⟨G2, 4, none⟩ = some c4 ∧ w.cell? ⟨G2, 5, none⟩ = some c5) ∧ (w.cell? ⟨G3, 0, none⟩ = some d0 ∧ w.cell? ⟨G3, 1, none⟩ = some d1 ∧ w.cell? ⟨G3, 2, none⟩ = some d2 ∧ w.cell? ⟨G3, 3, none⟩ = some d3 ∧ w.cell? ⟨G3, 4, none⟩ = some d4) ∧ (w.cell? ⟨G4, 0, none⟩ = some e0 ∧ w.cell? ⟨G4, 1, none⟩ = some e1 ∧ w.cell? ⟨G4, 2, none⟩ = some e2 ∧ w.cell? ⟨G4, 3, none⟩ = some e3 ∧ w.cell? ⟨G4, 4, none⟩ = some e4) ∧ (w.cell? ⟨G7, 0, none⟩ = some f0 ∧ w.cell? ⟨G7, 1, none⟩ = some f1) ∧ (∀ j, w.frozen? ⟨G0, j, none⟩ = false) ∧ (∀ j, w.frozen? ⟨G2, j, none⟩ = false) ∧ (∀ j, w.frozen? ⟨G3, j, none⟩ = false) ∧ (∀ j, w.frozen? ⟨G4, j, none⟩ = false) := by
  refine ⟨⟨q0.cell 0, q0.cell 1, q0.cell 2, q0.cell 3, q0.cell 4, q0.cell 5⟩, ⟨q1.cell 0, q1.cell 1, q1.cell 2, q1.cell 3⟩, ⟨q2.cell 0, q2.cell 1, q2.cell 2, q2.cell 3, q2.cell 4, q2.cell 5⟩, ⟨q3.cell 0, q3.cell 1, q3.cell 2, q3.cell 3, q3.cell 4⟩, ⟨q4.cell 0, q4.cell 1, q4.cell 2, q4.cell 3, q4.cell 4⟩, ⟨q7.cell 0, q7.cell 1⟩, q0.fz, q2.fz, q3.fz, q4.fz⟩
theorem step_kind1 {s : EM.St} {a : EM.Act} (h : a.kind = 1) : EM.step s a = ({ s with op := true }, if s.op then EM.err 7 else EM.ok) := by
  unfold EM.step
  rw [if_pos h]
theorem step_kind2 {s : EM.St} {a : EM.Act} (h : a.kind = 2) : EM.step s a = if s.op = false then (s, EM.err 7)
    else if ¬ (0 ≤ a.block ∧ a.block ≤ (s.now.blocks.length : Int) - 1) then (s, EM.err 6)
    else if 48 < a.data.size ∨ 12 < (EM.putW s.l ⟨a.block, a.data⟩).length then (s, EM.err 1)
    else ({ s with l := EM.putW s.l ⟨a.block, a.data⟩ }, EM.ok) := by
  unfold EM.step
  rw [if_neg (by omega), if_pos h]
theorem step_kind3 {s : EM.St} {a : EM.Act} (h : a.kind = 3) : EM.step s a = (s, ⟨(readOf s.now a.block).2, match s.l.find? (fun x => x.block == a.block) with
      | some x => x.data
      | none => (readOf s.now a.block).1, 0, 0, 0⟩) := by
  unfold EM.step
  rw [if_neg (by omega), if_neg (by omega), if_pos h]
  rfl
/-- what the last write to a block says, or else r -/
def datL (L : List Wr) (b : Int) (r : ByteArray) : ByteArray := match L.find? (fun x => x.block == b) with
  | some x => x.data
  | none => r
theorem step_read3 {s : EM.St} {a : EM.Act} (h : a.kind = 3) : EM.step s a = (s, ⟨(readOf s.now a.block).2, datL s.l a.block (readOf s.now a.block).1, 0, 0, 0⟩) := step_kind3 h
theorem datL_same {L : List Wr} {b : Int} {r : ByteArray} {k : Nat} {x : Wr} (hk : L[k]? = some x) (h : x.block ≠ b) : datL (L.take (k + 1)) b r = datL (L.take k) b r := by
  unfold datL
  rw [List.take_add_one, hk, List.find?_append]
  have : ([x] : List Wr).find? (fun y => y.block == b) = none := by simp [h]
  show (match ((L.take k).find? _ |>.or (([x] : List Wr).find? _)) with | some x => x.data | none => r) = _
  rw [this, Option.or_none]
theorem datL_hit {L : List Wr} (hup : L.Pairwise (fun x y => x.block < y.block)) {b : Int} {r : ByteArray} {k : Nat} {x : Wr} (hk : L[k]? = some x) (h : x.block = b) : datL (L.take (k + 1)) b r = x.data := by
  unfold datL
  have h0 : (L.take k).find? (fun y => y.block == b) = none := by
    rw [List.find?_eq_none]
    intro y hy
    obtain ⟨j, hj⟩ := List.getElem?_of_mem hy
    rw [List.getElem?_take] at hj
    split at hj
    · rename_i hjk
      have hlt : y.block < x.block := by
        rw [List.pairwise_iff_getElem] at hup
        obtain ⟨h1, h2⟩ := List.getElem?_eq_some_iff.1 hj
        obtain ⟨h3, h4⟩ := List.getElem?_eq_some_iff.1 hk
        have := hup j k h1 h3 hjk
        rw [h2, h4] at this
        exact this
      simp
      omega
    · cases hj
  rw [List.take_add_one, hk, List.find?_append, h0]
  have : ([x] : List Wr).find? (fun y => y.block == b) = some x := by simp [h]
  show (match (none : Option Wr) |>.or (([x] : List Wr).find? _) with | some x => x.data | none => r) = _
  rw [this]
  rfl
theorem step_kind4 {s : EM.St} {a : EM.Act} (h : a.kind = 4) : EM.step s a = if s.op = false then (s, EM.err 7)
    else if (applied s.now s.l).2 ≠ 0 then ({ s with op := false, l := [] }, EM.err (applied s.now s.l).2)
    else if 4000 < (bytesOf s.deals).length + (recL s.l).length then ({ s with op := false, l := [] }, EM.err 1)
    else ({ s with op := false, l := [], deals := s.deals ++ [s.l] }, EM.ok) := by
  unfold EM.step
  rw [if_neg (by omega), if_neg (by omega), if_neg (by omega), if_pos h]
theorem step_kind5 {s : EM.St} {a : EM.Act} (h : a.kind = 5) : EM.step s a = ({ s with op := false, l := [] }, if s.op then EM.ok else EM.err 7) := by
  unfold EM.step
  rw [if_neg (by omega), if_neg (by omega), if_neg (by omega), if_neg (by omega), if_pos h]
theorem step_kind6 {s : EM.St} {a : EM.Act} (h : a.kind = 6) : EM.step s a = ({ s with last := s.deals.length }, EM.ok) := by
  unfold EM.step
  rw [if_neg (by omega), if_neg (by omega), if_neg (by omega), if_neg (by omega), if_neg (by omega), if_pos h]
theorem step_kind7 {s : EM.St} {a : EM.Act} (h : a.kind = 7) : EM.step s a = if a.keep < 0 then (s, EM.err 2)
    else (⟨s.base, s.deals.take (s.last + fits (s.deals.drop s.last) a.keep.toNat), s.last + fits (s.deals.drop s.last) a.keep.toNat, false, []⟩, { EM.ok with count := ((s.last + fits (s.deals.drop s.last) a.keep.toNat : Nat) : Int) }) := by
  unfold EM.step
  rw [if_neg (by omega), if_neg (by omega), if_neg (by omega), if_neg (by omega), if_neg (by omega), if_neg (by omega), if_pos h]
theorem step_kind8 {s : EM.St} {a : EM.Act} (h : a.kind = 8) : EM.step s a = ({ s with base := s.now, deals := [], last := 0 }, EM.ok) := by
  unfold EM.step
  rw [if_neg (by omega), if_neg (by omega), if_neg (by omega), if_neg (by omega), if_neg (by omega), if_neg (by omega), if_neg (by omega), if_pos h]
theorem step_kind9 {s : EM.St} {a : EM.Act} (h : a.kind = 9) : EM.step s a = (s, { EM.ok with items := (s.now.items.length : Int), log := ((bytesOf s.deals).length : Int) }) := by
  unfold EM.step
  rw [if_neg (by omega), if_neg (by omega), if_neg (by omega), if_neg (by omega), if_neg (by omega), if_neg (by omega), if_neg (by omega), if_neg (by omega), if_pos h]
end Go.Proofs.Ythjaanhkmfiajac
