/- The plain mathematics of items, volumes, writes, logs and engines, and rows that a call owns: texts merged into one. No condition but those in the statements. -/
import Derived.Test.YthjaanhkmfiajacRows
import Derived.Test.YthjaanhkmfiajacPure
import Derived.WalkKit
import Derived.ProofKit
import Derived.OpenShut
import Derived.Carry
import Derived.Test.YthjaanhkmfiajacEngRun
import Derived.Deep.Slices
import Derived.Deep.Strs
import Derived.Lib.SmallJoins
import Derived.SizedLaws
/- The last step that every law's row shares: the call returned true and below the old heap nothing has turned, so the row's end holds. Conditions: those that its statement lists. -/
namespace Go.Proofs.Ythjaanhkmfiajac
open Go.ChangeShapes Go.WideShapes Go.ChangeAt Go.RowKit

theorem Try.laidOut : laidOutB Try.prog = true := by kernel_rfl
theorem Try.ownNone : ownKnob Try.prog.godebug = none := by kernel_rfl

theorem i64_bd {x : Int} (h : (Lit.int .i64 x).wf = true) : -9223372036854775808 ≤ x ∧ x ≤ 9223372036854775807 := by
  have e : IntKind.i64.min = -9223372036854775808 := by decide
  simp [Lit.wf, e] at h
  exact h
theorem u8_bd {x : Int} (h : (Lit.int .u8 x).wf = true) : ∃ c : UInt8, x = (c.toNat : Int) := by
  have e : IntKind.u8.min = 0 := by decide
  have e2 : IntKind.u8.max = 255 := by decide
  simp [Lit.wf, e, e2] at h
  exact ⟨UInt8.ofNat x.toNat, by simp; omega⟩

section
variable {H : Type} {enc : TypeId × Value → H} {P : Program}

/-- all arguments read as they did -/
theorem trodAll_below (hl : laidOutB P = true) {W W' : World} (hb : Below W.heap.size W W') : ∀ (ts : List TypeId) (vs : List Value) (ds : List (DataW H)) (ps : List MemPlace),
    (∀ t ∈ ts, P.readableRec t = true ∧ t < P.types.size) → (∀ x ∈ ps, x.block < W.heap.size) → DataW.TrodAll enc P W 0 (fun _ => true) true ts vs ds ps →
    DataW.TrodAll enc P W' 0 (fun b => decide (b < W.heap.size)) true ts vs ds ps
  | [], vs, ds, ps, _, _, h => by
    obtain ⟨rfl, rfl, rfl⟩ := trodAll_nil h
    exact trodAll_mk0
  | t :: ts, vs, ds, ps, ht, hp, h => by
    obtain ⟨v, vs', d, ds', p, q, rfl, rfl, rfl, hd, hr⟩ := trodAll_cons h
    obtain ⟨h1, h2⟩ := ht t (by simp)
    exact trodAll_cons_mk (Below.trod hl h1 h2 hd hb (fun x hx => hp x (by simp [hx]))) (trodAll_below hl hb ts vs' ds' q (fun u hu => ht u (by simp [hu])) (fun x hx => hp x (by simp [hx])) hr)

theorem law_post {f : Func} {s : ChangeSpec} {tb : TypeId} {W W' : World} {args : Array Value} {ds : List (DataW H)} {before : List MemPlace}
    (hl : laidOutB P = true) (ht : f.params.toList.all (fun t => P.readableRec t && decide (t < P.types.size)) = true) (hv : s.vars = []) (hf : f.resultTypes = #[tb]) (hbool : P.underlying tb = some .bool)
    (hres : (s.fn H (ds ++ [])).results = [.lit (.bool true)]) (harg : (s.fn H (ds ++ [])).args = ds) (hvar : (s.fn H (ds ++ [])).vars = [])
    (hW : DataW.Whole enc P f.params.toList s.vars false W args.toList ds [] before) (hb : Below W.heap.size W W') :
    s.post enc P f false true false false W args (.bool true) W' := by
  have hlt : ∀ x ∈ before, x.block < W.heap.size := fun x hx => hW.lt x hx
  obtain ⟨p, q, hA, hV, hpq, hz, hn⟩ := hW
  have hq : q = [] := by
    rw [hv] at hV
    exact (trodVars_none hV).2
  subst hq
  refine ⟨ds, [], before, [], p, [], ⟨p, [], hA, hV, hpq, hz, hn⟩, ?_, ?_, ?_, hb.frame _, fun h => by cases h⟩
  · rw [hres, hf]
    exact trodAll_mk1 (shut_bool hbool _)
  · rw [harg]
    refine trodAll_below hl hb _ _ _ _ (fun t h => ?_) (fun x hx => hlt x (by rw [hpq]; simpa using hx)) hA
    have := List.all_eq_true.1 ht t h
    simp only [Bool.and_eq_true, decide_eq_true_eq] at this
    exact this
  · rw [hvar]
    rw [hv] at hV ⊢
    exact rfl
end
end Go.Proofs.Ythjaanhkmfiajac

/- The statements' own sameAnswers: true on two slices that hold the same answers. No condition. -/
namespace Go.Proofs.Ythjaanhkmfiajac
open Go.RowKit

set_option maxRecDepth 100000 in
set_option maxHeartbeats 1000000 in
theorem sameAnswers_any (v u : Value) (L : List EM.Ans) (w : World) (hv : RowsAt ansC 5 w v L) (hu : RowsAt ansC 5 w u L) :
    Calls Try.prog 6 #[v, u] w fun e w' => e = .returned (.bool true) ∧ Below w.heap.size w w' := by
  obtain ⟨p, cap, rfl, hl, _, hc⟩ := hv
  obtain ⟨p', cap', rfl, _, _, hc'⟩ := hu
  have HC := Lib.hid hc
  have HC' := Lib.hid hc'
  clear hc hc'
  go_enter Try.func6, Try.ntmps6
  go_wp2
  go_loopw [5] (fun i wr => ∃ k : Nat, k ≤ L.length ∧ i = .int .i64 k ∧ Below w.heap.size w wr) (fun i _ => L.length - (intOf i).toNat)
  case atStart => exact ⟨0, Nat.zero_le _, rfl, Below.refl _ _⟩
  case round =>
    obtain ⟨k, hk, rfl, hb⟩ := hrel
    by_cases hlt : k < L.length
    · obtain ⟨x, hx⟩ : ∃ x, L[k]? = some x := ⟨L[k], List.getElem?_eq_getElem hlt⟩
      obtain ⟨b, off, rfl, hbl, h0⟩ := HC.out k x hx
      obtain ⟨b', off', rfl, hbl', h1⟩ := HC'.out k x hx
      have c0 := (hb.cell (p := ⟨b, off + k * 5 + 0, none⟩) hbl).trans (h0 0 (by decide))
      have c1 := (hb.cell (p := ⟨b, off + k * 5 + 1, none⟩) hbl).trans (h0 1 (by decide))
      have c2 := (hb.cell (p := ⟨b, off + k * 5 + 2, none⟩) hbl).trans (h0 2 (by decide))
      have c3 := (hb.cell (p := ⟨b, off + k * 5 + 3, none⟩) hbl).trans (h0 3 (by decide))
      have c4 := (hb.cell (p := ⟨b, off + k * 5 + 4, none⟩) hbl).trans (h0 4 (by decide))
      have d0 := (hb.cell (p := ⟨b', off' + k * 5 + 0, none⟩) hbl').trans (h1 0 (by decide))
      have d1 := (hb.cell (p := ⟨b', off' + k * 5 + 1, none⟩) hbl').trans (h1 1 (by decide))
      have d2 := (hb.cell (p := ⟨b', off' + k * 5 + 2, none⟩) hbl').trans (h1 2 (by decide))
      have d3 := (hb.cell (p := ⟨b', off' + k * 5 + 3, none⟩) hbl').trans (h1 3 (by decide))
      have d4 := (hb.cell (p := ⟨b', off' + k * 5 + 4, none⟩) hbl').trans (h1 4 (by decide))
      simp only [ansC, List.getElem?_cons_zero, List.getElem?_cons_succ, Nat.add_zero] at c0 c1 c2 c3 c4 d0 d1 d2 d3 d4
      clear hx h0 h1
      go_wp2
      go_quiet (fail)
      go_wp2
      all_goals
        go_roundw
        case rel => exact ⟨k + 1, by omega, by go_num, below_dr hb _⟩
        case measure => simp [intOf]; omega
    · go_wp2
      go_ret
      exact ⟨rfl, hb⟩
end Go.Proofs.Ythjaanhkmfiajac

/- An argument that is a slice of actions, opened to a list of actions; a whole slice of them appended to nil. Condition: its size, as the row's own reach gives it. -/
namespace Go.Proofs.Ythjaanhkmfiajac
open Go.ChangeShapes Go.WideShapes Go.ChangeAt Go.RowKit Go.Deep

theorem Try.actCells : Try.prog.cellsOf 41 = 4 := by kernel_rfl
theorem Try.actBytes : Try.prog.bytesOf 41 = 40 := by kernel_rfl
theorem Try.intCellsA : Try.prog.cellsOf 3 = 1 := by kernel_rfl
theorem Try.strCellsA : Try.prog.cellsOf 9 = 1 := by kernel_rfl
instance : Inhabited EM.Act := ⟨⟨0, 0, ⟨#[]⟩, 0⟩⟩

section
variable {H : Type} {enc : TypeId × Value → H} {W : World} {base : Nat} {spare : Nat → Bool} {held : Bool}

set_option maxRecDepth 100000 in
theorem open_act {fuel : Nat} {cs : List Value} {y : DataW H × List MemPlace} (h : DataW.trod enc Try.prog W base spare held fuel 41 cs = some y) :
    ∃ x : EM.Act, cs = [.int .i64 x.kind, .int .i64 x.block, .string x.data, .int .i64 x.keep] ∧ ActOk x := by
  obtain ⟨y0, y1, y2, y3, n, _, hl, h0, h1, h2, h3⟩ := Joins.trod_struct4 Try.underlying41 h
  rw [Try.actCells] at hl
  match cs, hl with
  | [c0, c1, c2, c3], _ =>
    simp only [Try.intCellsA, Try.strCellsA, List.drop_zero, List.take_succ_cons, List.take_zero, List.drop_succ_cons] at h0 h1 h2 h3
    obtain ⟨i, e0, _, w0⟩ := DataW.trod_int Try.underlying3 h0
    obtain ⟨a, e1, _, w1⟩ := DataW.trod_int Try.underlying3 h1
    obtain ⟨s, e2, _, _⟩ := DataW.trod_string Try.underlying9 h2
    obtain ⟨c, e3, _, w3⟩ := DataW.trod_int Try.underlying3 h3
    simp only [List.cons.injEq, and_true] at e0 e1 e2 e3
    subst e0 e1 e2 e3
    exact ⟨⟨i, a, s, c⟩, rfl, ⟨i64_bd w0, i64_bd w1, i64_bd w3⟩⟩

set_option maxRecDepth 100000 in
theorem open_acts {fuel : Nat} {v : Value} {d : DataW H} {p : List MemPlace} (h : DataW.trod enc Try.prog W 0 (fun _ => true) true fuel 22 [v] = some (d, p))
    (hlen : ∀ elems spare, d = .slice elems spare → (elems.length + spare.length) * 40 ≤ 140737488351232) :
    ∃ L : List EM.Act, ActsAt W v L ∧ (∀ x ∈ L, ActOk x) ∧ L.length * 40 ≤ 140737488351232 := by
  rcases open_slice Try.underlying22 h with ⟨hv, _⟩ | ⟨a, len, cap, m, n, D, Pl, hv, hb, hl, hm, hmm, hx, hi⟩
  · simp only [List.cons.injEq, and_true] at hv
    subst hv
    exact ⟨[], ⟨none, 0, rfl, by simp, fun _ => rfl, fun i x hx => by simp at hx⟩, fun x hx => by simp at hx, by simp⟩
  · simp only [List.cons.injEq, and_true] at hv
    subst hv
    simp only [if_true] at hmm
    subst hmm
    simp only [Prod.mk.injEq] at hx
    obtain ⟨hd, hpl⟩ := hx
    have hbound := hlen _ _ hd
    simp only [List.length_map, List.length_range] at hbound
    obtain ⟨f, hf⟩ := choose_lt (α := EM.Act) (n := len) (p := fun i x => (W.cell? (a.add (i * 4)) = some (.int .i64 x.kind) ∧ W.cell? (a.add (i * 4 + 1)) = some (.int .i64 x.block) ∧ W.cell? (a.add (i * 4 + 2)) = some (.string x.data) ∧ W.cell? (a.add (i * 4 + 3)) = some (.int .i64 x.keep)) ∧ ActOk x) (fun i hil => by
      obtain ⟨cs', hc, ht⟩ := hi i (by omega)
      rw [Try.actCells] at hc
      obtain ⟨x, rfl, w0⟩ := open_act ht
      obtain ⟨_, _, hat⟩ := World.cells?_some hc
      have c0 := hat 0 (by omega)
      have c1 := hat 1 (by omega)
      have c2 := hat 2 (by omega)
      have c3 := hat 3 (by omega)
      rw [add_add] at c0 c1 c2 c3
      exact ⟨x, ⟨c0, c1, c2, c3⟩, w0⟩)
    refine ⟨(List.range len).map f, ⟨some a, m, by simp, by simp; omega, (fun h => by cases h), fun i x hx => ?_⟩, fun x hx => ?_, by simp; omega⟩
    · have hil : i < len := by
        have := (List.getElem?_eq_some_iff.1 hx).1
        simpa using this
      simp [hil] at hx
      subst hx
      obtain ⟨⟨c0, c1, c2, c3⟩, _⟩ := hf i hil
      obtain ⟨b, off, spot⟩ := a
      have hspot : spot = none := by simpa [Addr.add] using World.cell?_spot (hf 0 (by omega)).1.1
      subst hspot
      rw [Go.WideShapes.add_plain] at c0 c1 c2 c3
      rw [← Nat.add_assoc] at c1 c2 c3
      refine ⟨b, off, rfl, ?_, fun j hj => ?_⟩
      · have hbk : W.heap[b]? ≠ none := by
          intro hn
          simp [World.cell?, hn] at c0
        simpa using hbk
      · match j, hj with
        | 0, _ => exact c0
        | 1, _ => exact c1
        | 2, _ => exact c2
        | 3, _ => exact c3
    · simp only [List.mem_map, List.mem_range] at hx
      obtain ⟨i, hil, rfl⟩ := hx
      exact (hf i hil).2
end
section
variable {P : Program} {α : Type} {enc : α → List Value} {k : Nat}
/-- a whole slice appended to nil, however long -/
theorem wpList_nil_rs (he : Enc enc k) {ops : Array Oper} {rest : List Oper} {o : Oper} {a : Go.Act} {Q : Exit → Go.Act → World → Prop} {w : World} (hgd : o.guard = none) (s x : Operand) (t : TypeId)
    (ho : o.op = .call { callee := .builtin .append, args := #[s, x], argTypes := #[t, t] })
    (B : Nat) (e : TypeId) (i : TypeInfo) (z : Value) (by' : Nat) (ht : P.underlying t = some (.slice e)) (hi : P.info? e = some i) (hz : i.zero = some z) (hzs : z.cells.size = k) (hsize : i.size = k) (hby : i.bytes = by')
    (hs : a.eval s = .slice none 0 0) (W0 : World) (M : List α) (vm : Value) (hb : OwnR enc k B e (.slice none 0 0) [] W0 w) (hm : RowsAt enc k w vm M)
    (hx : a.eval x = vm) (hlen : M.length * by' ≤ 140737488355328)
    (h : ∀ v' w', OwnR enc k B e v' M W0 w' → wpList P ops Q rest (a.put o.dst v') w') : wpList P ops Q (o :: rest) a w := by
  obtain ⟨p, cap, rfl, hl, hn, hc⟩ := hm
  cases p with
  | none =>
    have : M = [] := by
      cases M with
      | nil => rfl
      | cons y M => obtain ⟨_, _, hp, _⟩ := hc 0 y rfl; cases hp
    subst this
    rw [hn rfl] at hx
    refine wpList_append_own_none hgd s x t ho B e i k ht hi (.slice none 0 0) 0 [] hs hb.1 hx ?_
    exact h _ w hb
  | some ad =>
    refine wpList_append_own _ hgd s x t ho B e i z k by' ht hi hz hsize hby hzs he.pos (.slice none 0 0) 0 [] hs hb.1 ad M.length cap (rcells enc M) hx (rcells_length he M) ?_ (rcells_one he _) (by unfold maxLen; omega) (by rw [Nat.zero_add]; exact hlen) hb.2.2 ?_
    · intro j u hj
      have hjl := (List.getElem?_eq_some_iff.1 hj).1
      rw [rcells_length he] at hjl
      have hk := he.pos
      have hr : j % k < k := Nat.mod_lt _ hk
      have hjq : j = j / k * k + j % k := by
        have := Nat.div_add_mod j k
        rw [Nat.mul_comm] at this
        exact this.symm
      have hq : j / k < M.length := Nat.div_lt_of_lt_mul (by rw [Nat.mul_comm]; exact hjl)
      obtain ⟨b, off, hp, _, hcell⟩ := hc (j / k) M[j / k] (List.getElem?_eq_getElem hq)
      cases hp
      rw [Addr.add_lit, hjq, ← Nat.add_assoc, hcell _ hr, ← rcells_at he M _ _ _ (List.getElem?_eq_getElem hq) hr, ← hjq]
      exact hj
    · intro v' w' ho' hg _
      refine h v' w' (hb.grown (L' := M) ?_ hg)
      have e1 : 0 + M.length = M.length := Nat.zero_add _
      rw [e1] at ho'
      exact ho'
end
end Go.Proofs.Ythjaanhkmfiajac

/- Package engine: Run: what it refuses. No condition but those in the statements. -/
namespace Go.Proofs.Ythjaanhkmfiajac
open Go.RowKit LM

/-- what Run returns where it refuses -/
def RunBad (c : Int) (w : World) (e : Ending) (w' : World) : Prop := e = .returned (.tuple #[.slice none 0 0, .agg #[.slice none 0 0, .slice none 0 0], .int .i64 c]) ∧ Below w.heap.size w w'

set_option maxRecDepth 100000 in
theorem Run_range (n : Int) (hn : ¬ (1 ≤ n ∧ n ≤ 32)) (u : Value) (w : World) :
    Calls Try.prog 4 #[.int .i64 n, u] w (RunBad 2 w) := by
  have hnew : newOf n = (⟨[], []⟩, 2) := by
    unfold newOf
    rw [if_neg hn]
  have hN := VNew_any n (w.alloc (.cells #[.slice none 0 0, .slice none 0 0] 27))
  rw [hnew] at hN
  have HN := Lib.hid hN
  have h5 := VBox.new w (.slice none 0 0) (.slice none 0 0)
  have H5 := Lib.hid h5
  clear hN hnew hn h5
  go_enter Try.func4, Try.ntmps4
  go_wp2_with (go_at_call 8; refine HN.out.mono ?_; rintro e w1 ⟨vi, vz, rfl, ho⟩; obtain ⟨pi, ki, rfl⟩ := ho.1.isSlice; obtain ⟨pz, kz, rfl⟩ := ho.2.1.isSlice; obtain ⟨e50, e51, f50, f51⟩ := ((H5.out.keep ho.below).keep (below_alloc (Below.refl _ _) (.cells #[.slice pi 0 ki, .slice pz 0 kz] 27))).at; have hb1 := below_then (below_alloc (Below.refl _ _) _) ho.below; clear ho)
  exact bodyPost_ret (v := .tuple #[.slice none 0 0, .agg #[.slice none 0 0, .slice none 0 0], .int .i64 2]) (by simp [results, Try.results4, go_sem, e50, e51]) rfl
    ⟨rfl, ((below_alloc hb1 _).setCell (p := ⟨w.heap.size, 0, none⟩) (Nat.le_refl _) _).setCell (p := ⟨w.heap.size, 1, none⟩) (Nat.le_refl _) _⟩

set_option maxRecDepth 100000 in
theorem Run_size (n : Nat) (hn : 1 ≤ n ∧ n ≤ 32) (p : Option Addr) (k c : Nat) (hk : 300 < k) (w : World) :
    Calls Try.prog 4 #[.int .i64 (n : Int), .slice p k c] w (RunBad 1 w) := by
  have hnew : newOf (n : Int) = (newV n, 0) := by
    unfold newOf
    rw [if_pos (by omega), Int.toNat_natCast]
  have hN := VNew_any (n : Int) (w.alloc (.cells #[.slice none 0 0, .slice none 0 0] 27))
  rw [hnew] at hN
  obtain ⟨V0, hV0⟩ : ∃ V, V = newV n := ⟨_, rfl⟩
  rw [← hV0] at hN
  have HN := Lib.hid hN
  have h5 := VBox.new w (.slice none 0 0) (.slice none 0 0)
  have H5 := Lib.hid h5
  have t300 : decide ((300 : Int) < (k : Int)) = true := by simp; omega
  clear hN hnew h5 hV0
  go_enter Try.func4, Try.ntmps4
  go_wp2_with (go_at_call 8; refine HN.out.mono ?_; rintro e w1 ⟨vi, vz, rfl, ho⟩; obtain ⟨pi, ki, rfl⟩ := ho.1.isSlice; obtain ⟨pz, kz, rfl⟩ := ho.2.1.isSlice; obtain ⟨e50, e51, f50, f51⟩ := ((H5.out.keep ho.below).keep (below_alloc (Below.refl _ _) (.cells #[.slice pi V0.items.length ki, .slice pz V0.blocks.length kz] 27))).at; have hb1 := below_then (below_alloc (Below.refl _ _) _) ho.below; clear ho)
  exact bodyPost_ret (v := .tuple #[.slice none 0 0, .agg #[.slice none 0 0, .slice none 0 0], .int .i64 1]) (by simp [results, Try.results4, go_sem, e50, e51]) rfl
    ⟨rfl, ((below_alloc hb1 _).setCell (p := ⟨w.heap.size, 0, none⟩) (Nat.le_refl _) _).setCell (p := ⟨w.heap.size, 1, none⟩) (Nat.le_refl _) _⟩
end Go.Proofs.Ythjaanhkmfiajac
