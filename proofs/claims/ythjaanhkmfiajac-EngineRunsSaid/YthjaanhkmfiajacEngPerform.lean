/- Package engine: perform: what one action answers and leaves of the state. Condition: its numbers are ints. -/
import Derived.Test.YthjaanhkmfiajacEngPut
import Derived.Test.YthjaanhkmfiajacEngCommit
import Derived.Test.YthjaanhkmfiajacEngCrash
import Derived.Test.YthjaanhkmfiajacEngMark
namespace Go.Proofs.Ythjaanhkmfiajac
open Go.RowKit LM

/-- an answer, an action as values -/
def ansV (x : EM.Ans) : Value := .agg #[.int .i64 x.code, .string x.data, .int .i64 x.items, .int .i64 x.log, .int .i64 x.count]
def actV (a : EM.Act) : Value := .agg #[.int .i64 a.kind, .int .i64 a.block, .string a.data, .int .i64 a.keep]
structure ActOk (a : EM.Act) : Prop where
  kind : -9223372036854775808 ≤ a.kind ∧ a.kind ≤ 9223372036854775807
  block : -9223372036854775808 ≤ a.block ∧ a.block ≤ 9223372036854775807
  keep : -9223372036854775808 ≤ a.keep ∧ a.keep ≤ 9223372036854775807
/-- block G is a box of an answer's five cells -/
def AnsBox (w : World) (G : Nat) (a b c d e : Value) : Prop := w.heap[G]? = some (.cells #[a, b, c, d, e] 43 (0, 0))
theorem AnsBox.at {w : World} {G : Nat} {a b c d e : Value} (h : AnsBox w G a b c d e) : w.cell? ⟨G, 0, none⟩ = some a ∧ w.cell? ⟨G, 1, none⟩ = some b ∧ w.cell? ⟨G, 2, none⟩ = some c ∧ w.cell? ⟨G, 3, none⟩ = some d ∧ w.cell? ⟨G, 4, none⟩ = some e ∧
    w.frozen? ⟨G, 0, none⟩ = false ∧ w.frozen? ⟨G, 1, none⟩ = false ∧ w.frozen? ⟨G, 2, none⟩ = false ∧ w.frozen? ⟨G, 3, none⟩ = false ∧ w.frozen? ⟨G, 4, none⟩ = false := by
  unfold AnsBox at h
  refine ⟨?_, ?_, ?_, ?_, ?_, ?_, ?_, ?_, ?_, ?_⟩ <;> simp [World.cell?, World.frozen?, h]
theorem AnsBox.soft {w w' : World} {G : Nat} {a b c d e : Value} (h : AnsBox w G a b c d e) (hs : Soft w w') : AnsBox w' G a b c d e := hs.cells h (by decide) (by decide)
abbrev set5 (w : World) (G : Nat) (a b c d e : Value) : World := ((((w.setCell ⟨G, 0, none⟩ a).setCell ⟨G, 1, none⟩ b).setCell ⟨G, 2, none⟩ c).setCell ⟨G, 3, none⟩ d).setCell ⟨G, 4, none⟩ e

section
variable {B : Nat} {W0 w w' : World} {g : Nat} {V S : Vol} {lg : ByteArray} {du : Int} {op : Bool} {L : List Wr} {vi vb si sb wv : Value}
/-- a store into a block of another type -/
theorem StC.aside (h : StC B W0 w g V S lg du op L vi vb si sb wv) {G j : Nat} {x : Value} {T : TypeId} (hB : B ≤ G) (hG : ∃ cur fr, w.heap[G]? = some (.cells cur T fr))
    (h1 : T ≠ 39) (h2 : T ≠ 61) (h3 : T ≠ 55) (h4 : T ≠ 3) : StC B W0 (w.setCell ⟨G, j, none⟩ x) g V S lg du op L vi vb si sb wv := by
  obtain ⟨cg, fg, hg⟩ := hG
  have hne : ∀ {k : Nat} {cur : Array Value} {U : TypeId} {fr : Nat × Nat}, w.heap[k]? = some (.cells cur U fr) → U ≠ T → k ≠ G := by
    intro k cur U fr hk hU e
    rw [e, hg] at hk
    simp only [Option.some.injEq, Obj.cells.injEq] at hk
    exact hU hk.2.1.symm
  obtain ⟨cur, fr, hk⟩ := h.ty
  have hgG := hne hk (fun e => h1 e.symm)
  have eb : (w.setCell ⟨G, j, none⟩ x).heap[g]? = w.heap[g]? := Below.heap_setCell _ _ _ _ hgG
  have hc : ∀ i, (w.setCell ⟨G, j, none⟩ x).cell? ⟨g, i, none⟩ = w.cell? ⟨g, i, none⟩ := fun i => World.cell?_of_block (a := ⟨g, i, none⟩) eb
  have hv : ∀ {vi vb V}, VolTy w vi vb V → VolTy (w.setCell ⟨G, j, none⟩ x) vi vb V := fun hv => hv.of (by simp [World.setCell]) (fun k cur U fr hk hT => Below.heap_setCell _ _ _ _ (hne hk (by
    rcases hT with rfl | rfl
    · exact fun e => h3 e.symm
    · exact fun e => h4 e.symm)))
  exact ⟨h.ge, ⟨cur, fr, eb.trans hk⟩, fun i => (World.frozen?_of_block (a := ⟨g, i, none⟩) eb).trans (h.fz i), (hc 0).trans h.c0, (hc 1).trans h.c1, (hc 2).trans h.c2, (hc 3).trans h.c3, (hc 4).trans h.c4, (hc 5).trans h.c5, (hc 6).trans h.c6, (hc 7).trans h.c7, hv h.vol, hv h.saved,
    own_set h.writes hB (fun e => by
      obtain ⟨cur', hk'⟩ := row_type h.writes.1 G e
      exact hne hk' (fun e => h2 e.symm) rfl)⟩
theorem Soft.setNew (h : Soft w w') {G j : Nat} {x : Value} (hG : w.heap.size ≤ G) : Soft w (w'.setCell ⟨G, j, none⟩ x) :=
  ⟨h.os, h.tape, h.output, by have := h.size; simpa [World.setCell] using this, fun k cur T fr hk h1 h2 => by
    rw [Below.heap_setCell _ _ _ _ (show k ≠ G by have := (Array.getElem?_eq_some_iff.1 hk).1; omega)]
    exact h.block k cur T fr hk h1 h2⟩
end
section
variable {B : Nat} {W0 w w2 : World} {g n : Nat} {s : EM.St}
theorem St.answer {G : Nat} {a b c d e : Value} (h : St B W0 w2 g n s) (hb : AnsBox w2 G a b c d e) (hB : B ≤ G) (a' b' c' d' e' : Value) : St B W0 (set5 w2 G a' b' c' d' e') g n s := by
  obtain ⟨hi, vi, vb, si, sb, wv, hc⟩ := h
  have t0 : ∃ cur fr, w2.heap[G]? = some (.cells cur 43 fr) := ⟨_, _, hb⟩
  have hx : ∀ {W : World} {j : Nat} {x : Value}, StC B W0 W g s.now s.base (logB s) (durN s) s.op s.l vi vb si sb wv → (∃ cur fr, W.heap[G]? = some (.cells cur 43 fr)) → StC B W0 (W.setCell ⟨G, j, none⟩ x) g s.now s.base (logB s) (durN s) s.op s.l vi vb si sb wv :=
    fun h t => h.aside hB t (by decide) (by decide) (by decide) (by decide)
  exact ⟨hi, vi, vb, si, sb, wv, hx (hx (hx (hx (hx hc t0) (ty_set t0)) (ty_set (ty_set t0))) (ty_set (ty_set (ty_set t0)))) (ty_set (ty_set (ty_set (ty_set t0))))⟩
theorem Soft.answer {G : Nat} (h : Soft w w2) (hG : w.heap.size ≤ G) (a' b' c' d' e' : Value) : Soft w (set5 w2 G a' b' c' d' e') := ((((h.setNew hG).setNew hG).setNew hG).setNew hG).setNew hG

/-- perform's end -/
def PerfRet (B : Nat) (W0 w : World) (g n : Nat) (T : EM.St × EM.Ans) (e : Ending) (w' : World) : Prop := e = .returned (ansV T.2) ∧ St B W0 w' g n T.1 ∧ Soft w w'
/-- the world in which perform begins to choose -/
def perf0 (a : EM.Act) (w : World) : World := (w.alloc (.cells #[.int .i64 a.kind, .int .i64 a.block, .string a.data, .int .i64 a.keep] 41)).alloc (.cells #[.int .i64 0, .string ⟨#[]⟩, .int .i64 0, .int .i64 0, .int .i64 0] 43)
theorem perf0_below (a : EM.Act) (w : World) : Below w.heap.size w (perf0 a w) := below_alloc (below_alloc (Below.refl _ _) _) _
theorem AnsBox.new (w : World) (a b c d e : Value) : AnsBox (w.alloc (.cells #[a, b, c, d, e] 43)) w.heap.size a b c d e := by
  show (w.heap.push _)[w.heap.size]? = _
  simp
theorem perf0_box (a : EM.Act) (w : World) : AnsBox (perf0 a w) (w.heap.size + 1) (.int .i64 0) (.string ⟨#[]⟩) (.int .i64 0) (.int .i64 0) (.int .i64 0) := by
  have h := AnsBox.new (w.alloc (.cells #[.int .i64 a.kind, .int .i64 a.block, .string a.data, .int .i64 a.keep] 41)) (.int .i64 0) (.string ⟨#[]⟩) (.int .i64 0) (.int .i64 0) (.int .i64 0)
  rw [show (w.alloc (.cells #[.int .i64 a.kind, .int .i64 a.block, .string a.data, .int .i64 a.keep] 41)).heap.size = w.heap.size + 1 by simp] at h
  exact h
theorem perf_end {T : EM.St × EM.Ans} {a : EM.Act} {a0 b0 c0 d0 e0 a' b' c' d' e' : Value} (hs : St B W0 w2 g n T.1) (ho : Soft (perf0 a w) w2) (hbx : AnsBox w2 (w.heap.size + 1) a0 b0 c0 d0 e0) (hB : B ≤ w.heap.size) (hx : ansV T.2 = .agg #[a', b', c', d', e']) :
    PerfRet B W0 w g n T (.returned (.agg #[a', b', c', d', e'])) (set5 w2 (w.heap.size + 1) a' b' c' d' e') :=
  ⟨by rw [hx], hs.answer hbx (by omega) _ _ _ _ _, ((Soft.of_below (perf0_below a w)).trans ho).answer (by omega) _ _ _ _ _⟩

set_option maxRecDepth 100000 in
set_option maxHeartbeats 1000000 in
theorem perf_begin (b k : Int) (d : ByteArray) (w : World) (h : St B W0 w g n s) (hB : B ≤ w.heap.size) :
    Calls Try.prog 10 #[.pointer (some ⟨g, 0, none⟩), actV ⟨1, b, d, k⟩] w (PerfRet B W0 w g n (EM.step s ⟨1, b, d, k⟩)) := by
  have e : EM.step s ⟨1, b, d, k⟩ = EM.step s (EM.act 1) := rfl
  have hm := begin_any (perf0 ⟨1, b, d, k⟩ w) (h.keep (perf0_below ⟨1, b, d, k⟩ w))
  have hx : ansV (EM.step s (EM.act 1)).2 = .agg #[.int .i64 (EM.step s (EM.act 1)).2.code, .string ⟨#[]⟩, .int .i64 0, .int .i64 0, .int .i64 0] := by
    rw [EM.step_begin]; cases s.op <;> rfl
  rw [e]
  obtain ⟨T, hT⟩ : ∃ T, T = EM.step s (EM.act 1) := ⟨_, rfl⟩
  rw [← hT] at hm hx ⊢
  have HM := Lib.hid hm
  have HX := Lib.hid hx
  have HBX := Lib.hid (perf0_box ⟨1, b, d, k⟩ w)
  unfold actV
  clear hm hx hT e h
  go_enter Try.func10, Try.ntmps10
  go_wp2_with (go_at_call 19; refine HM.out.mono ?_; rintro e w2 ⟨rfl, hs2, ho2⟩; have hbx := HBX.out.soft ho2; obtain ⟨e0, e1, e2, e3, e4, f0, f1, f2, f3, f4⟩ := hbx.at)
  exact bodyPost_ret (v := .agg #[.int .i64 T.2.code, .string ⟨#[]⟩, .int .i64 0, .int .i64 0, .int .i64 0]) (by simp [results, Try.results10, go_sem, e0, e1, e2, e3, e4]) rfl (perf_end hs2 ho2 hbx hB HX.out)

set_option maxRecDepth 100000 in
set_option maxHeartbeats 1000000 in
theorem perf_put (b k : Int) (d : ByteArray) (w : World) (h : St B W0 w g n s) (hB : B ≤ w.heap.size) :
    Calls Try.prog 10 #[.pointer (some ⟨g, 0, none⟩), actV ⟨2, b, d, k⟩] w (PerfRet B W0 w g n (EM.step s ⟨2, b, d, k⟩)) := by
  have e : EM.step s ⟨2, b, d, k⟩ = EM.step s (EM.put b d) := rfl
  have hm := put_any b d (perf0 ⟨2, b, d, k⟩ w) (h.keep (perf0_below ⟨2, b, d, k⟩ w))
  have hx : ansV (EM.step s (EM.put b d)).2 = .agg #[.int .i64 (EM.step s (EM.put b d)).2.code, .string ⟨#[]⟩, .int .i64 0, .int .i64 0, .int .i64 0] := by
    rw [EM.step_put]; repeat' split
    all_goals rfl
  rw [e]
  obtain ⟨T, hT⟩ : ∃ T, T = EM.step s (EM.put b d) := ⟨_, rfl⟩
  rw [← hT] at hm hx ⊢
  have HM := Lib.hid hm
  have HX := Lib.hid hx
  have HBX := Lib.hid (perf0_box ⟨2, b, d, k⟩ w)
  unfold actV
  clear hm hx hT e h
  go_enter Try.func10, Try.ntmps10
  go_wp2_with (go_at_call 20; refine HM.out.mono ?_; rintro e w2 ⟨rfl, hs2, ho2⟩; have hbx := HBX.out.soft ho2; obtain ⟨e0, e1, e2, e3, e4, f0, f1, f2, f3, f4⟩ := hbx.at)
  exact bodyPost_ret (v := .agg #[.int .i64 T.2.code, .string ⟨#[]⟩, .int .i64 0, .int .i64 0, .int .i64 0]) (by simp [results, Try.results10, go_sem, e0, e1, e2, e3, e4]) rfl (perf_end hs2 ho2 hbx hB HX.out)

set_option maxRecDepth 100000 in
set_option maxHeartbeats 1000000 in
theorem perf_commit (b k : Int) (d : ByteArray) (w : World) (h : St B W0 w g n s) (hB : B ≤ w.heap.size) :
    Calls Try.prog 10 #[.pointer (some ⟨g, 0, none⟩), actV ⟨4, b, d, k⟩] w (PerfRet B W0 w g n (EM.step s ⟨4, b, d, k⟩)) := by
  have e : EM.step s ⟨4, b, d, k⟩ = EM.step s (EM.act 4) := rfl
  have hm := commit_any (perf0 ⟨4, b, d, k⟩ w) (h.keep (perf0_below ⟨4, b, d, k⟩ w))
  have hx : ansV (EM.step s (EM.act 4)).2 = .agg #[.int .i64 (EM.step s (EM.act 4)).2.code, .string ⟨#[]⟩, .int .i64 0, .int .i64 0, .int .i64 0] := by
    rw [EM.step_commit]; repeat' split
    all_goals rfl
  rw [e]
  obtain ⟨T, hT⟩ : ∃ T, T = EM.step s (EM.act 4) := ⟨_, rfl⟩
  rw [← hT] at hm hx ⊢
  have HM := Lib.hid hm
  have HX := Lib.hid hx
  have HBX := Lib.hid (perf0_box ⟨4, b, d, k⟩ w)
  unfold actV
  clear hm hx hT e h
  go_enter Try.func10, Try.ntmps10
  go_wp2_with (go_at_call 22; refine HM.out.mono ?_; rintro e w2 ⟨rfl, hs2, ho2⟩; have hbx := HBX.out.soft ho2; obtain ⟨e0, e1, e2, e3, e4, f0, f1, f2, f3, f4⟩ := hbx.at)
  exact bodyPost_ret (v := .agg #[.int .i64 T.2.code, .string ⟨#[]⟩, .int .i64 0, .int .i64 0, .int .i64 0]) (by simp [results, Try.results10, go_sem, e0, e1, e2, e3, e4]) rfl (perf_end hs2 ho2 hbx hB HX.out)

set_option maxRecDepth 100000 in
set_option maxHeartbeats 1000000 in
theorem perf_abort (b k : Int) (d : ByteArray) (w : World) (h : St B W0 w g n s) (hB : B ≤ w.heap.size) :
    Calls Try.prog 10 #[.pointer (some ⟨g, 0, none⟩), actV ⟨5, b, d, k⟩] w (PerfRet B W0 w g n (EM.step s ⟨5, b, d, k⟩)) := by
  have e : EM.step s ⟨5, b, d, k⟩ = EM.step s (EM.act 5) := rfl
  have hm := abort_any (perf0 ⟨5, b, d, k⟩ w) (h.keep (perf0_below ⟨5, b, d, k⟩ w))
  have hx : ansV (EM.step s (EM.act 5)).2 = .agg #[.int .i64 (EM.step s (EM.act 5)).2.code, .string ⟨#[]⟩, .int .i64 0, .int .i64 0, .int .i64 0] := by
    rw [EM.step_abort]; cases s.op <;> rfl
  rw [e]
  obtain ⟨T, hT⟩ : ∃ T, T = EM.step s (EM.act 5) := ⟨_, rfl⟩
  rw [← hT] at hm hx ⊢
  have HM := Lib.hid hm
  have HX := Lib.hid hx
  have HBX := Lib.hid (perf0_box ⟨5, b, d, k⟩ w)
  unfold actV
  clear hm hx hT e h
  go_enter Try.func10, Try.ntmps10
  go_wp2_with (go_at_call 23; refine HM.out.mono ?_; rintro e w2 ⟨rfl, hs2, ho2⟩; have hbx := HBX.out.soft ho2; obtain ⟨e0, e1, e2, e3, e4, f0, f1, f2, f3, f4⟩ := hbx.at)
  exact bodyPost_ret (v := .agg #[.int .i64 T.2.code, .string ⟨#[]⟩, .int .i64 0, .int .i64 0, .int .i64 0]) (by simp [results, Try.results10, go_sem, e0, e1, e2, e3, e4]) rfl (perf_end hs2 ho2 hbx hB HX.out)

set_option maxRecDepth 100000 in
set_option maxHeartbeats 1000000 in
theorem perf_read (b k : Int) (d : ByteArray) (hb : -9223372036854775808 ≤ b ∧ b ≤ 9223372036854775807) (w : World) (h : St B W0 w g n s) (hB : B ≤ w.heap.size) :
    Calls Try.prog 10 #[.pointer (some ⟨g, 0, none⟩), actV ⟨3, b, d, k⟩] w (PerfRet B W0 w g n (EM.step s ⟨3, b, d, k⟩)) := by
  have e : EM.step s ⟨3, b, d, k⟩ = EM.step s (EM.readA b) := rfl
  have h0 := h.keep (perf0_below ⟨3, b, d, k⟩ w)
  have hm := read_any b hb (perf0 ⟨3, b, d, k⟩ w) h0
  have hx : ansV (EM.step s (EM.readA b)).2 = .agg #[.int .i64 (EM.step s (EM.readA b)).2.code, .string (EM.step s (EM.readA b)).2.data, .int .i64 0, .int .i64 0, .int .i64 0] := rfl
  have hs1 : (EM.step s (EM.readA b)).1 = s := rfl
  rw [e]
  obtain ⟨T, hT⟩ : ∃ T, T = EM.step s (EM.readA b) := ⟨_, rfl⟩
  rw [← hT] at hm hx hs1 ⊢
  have HM := Lib.hid hm
  have HX := Lib.hid hx
  have HS1 := Lib.hid hs1
  have HBX := Lib.hid (perf0_box ⟨3, b, d, k⟩ w)
  have H0 := Lib.hid h0
  unfold actV
  clear hm hx hT e h h0 hs1
  go_enter Try.func10, Try.ntmps10
  go_wp2_with (go_at_call 21; refine HM.out.mono ?_; rintro e w2 ⟨rfl, hb2⟩; have hbx := HBX.out.soft (.of_below hb2); obtain ⟨e0, e1, e2, e3, e4, f0, f1, f2, f3, f4⟩ := hbx.at)
  exact bodyPost_ret (v := .agg #[.int .i64 T.2.code, .string T.2.data, .int .i64 0, .int .i64 0, .int .i64 0]) (by simp [results, Try.results10, go_sem, e0, e1, e2, e3, e4]) rfl (perf_end (a := ⟨3, b, d, k⟩) (by rw [HS1.out]; exact H0.out.keep hb2) (.of_below hb2) hbx hB HX.out)

set_option maxRecDepth 100000 in
set_option maxHeartbeats 1000000 in
theorem perf_crash (b k : Int) (d : ByteArray) (hk : -9223372036854775808 ≤ k ∧ k ≤ 9223372036854775807) (w : World) (h : St B W0 w g n s) (hB : B ≤ w.heap.size) :
    Calls Try.prog 10 #[.pointer (some ⟨g, 0, none⟩), actV ⟨7, b, d, k⟩] w (PerfRet B W0 w g n (EM.step s ⟨7, b, d, k⟩)) := by
  have e : EM.step s ⟨7, b, d, k⟩ = EM.step s (EM.crash k) := rfl
  have hm := crash_any k hk (perf0 ⟨7, b, d, k⟩ w) (h.keep (perf0_below ⟨7, b, d, k⟩ w))
  have hx : ansV (EM.step s (EM.crash k)).2 = .agg #[.int .i64 (EM.step s (EM.crash k)).2.code, .string ⟨#[]⟩, .int .i64 0, .int .i64 0, .int .i64 (EM.step s (EM.crash k)).2.count] := by
    by_cases h0 : k < 0
    · have e : EM.step s (EM.crash k) = (s, EM.err 2) := by
        show (if k < 0 then _ else _) = _
        rw [if_pos h0]
      rw [e]
      rfl
    · rw [EM.step_crash s (by omega)]
      rfl
  rw [e]
  obtain ⟨T, hT⟩ : ∃ T, T = EM.step s (EM.crash k) := ⟨_, rfl⟩
  rw [← hT] at hm hx ⊢
  have HM := Lib.hid hm
  have HX := Lib.hid hx
  have HBX := Lib.hid (perf0_box ⟨7, b, d, k⟩ w)
  unfold actV
  clear hm hx hT e h
  go_enter Try.func10, Try.ntmps10
  go_wp2_with (go_at_call 24; refine HM.out.mono ?_; rintro e w2 ⟨rfl, hs2, ho2⟩; have hbx := HBX.out.soft ho2; obtain ⟨e0, e1, e2, e3, e4, f0, f1, f2, f3, f4⟩ := hbx.at)
  exact bodyPost_ret (v := .agg #[.int .i64 T.2.code, .string ⟨#[]⟩, .int .i64 0, .int .i64 0, .int .i64 T.2.count]) (by simp [results, Try.results10, go_sem, e0, e1, e2, e3, e4]) rfl (perf_end hs2 ho2 hbx hB HX.out)

set_option maxRecDepth 100000 in
set_option maxHeartbeats 1000000 in
theorem perf_mark (b k : Int) (d : ByteArray) (w : World) (h : St B W0 w g n s) (hB : B ≤ w.heap.size) :
    Calls Try.prog 10 #[.pointer (some ⟨g, 0, none⟩), actV ⟨8, b, d, k⟩] w (PerfRet B W0 w g n (EM.step s ⟨8, b, d, k⟩)) := by
  have e : EM.step s ⟨8, b, d, k⟩ = EM.step s (EM.act 8) := rfl
  have hm := mark_any (perf0 ⟨8, b, d, k⟩ w) (h.keep (perf0_below ⟨8, b, d, k⟩ w))
  have hx : ansV (EM.step s (EM.act 8)).2 = .agg #[.int .i64 0, .string ⟨#[]⟩, .int .i64 0, .int .i64 0, .int .i64 0] := rfl
  rw [e]
  obtain ⟨T, hT⟩ : ∃ T, T = EM.step s (EM.act 8) := ⟨_, rfl⟩
  rw [← hT] at hm hx ⊢
  have HM := Lib.hid hm
  have HX := Lib.hid hx
  have HBX := Lib.hid (perf0_box ⟨8, b, d, k⟩ w)
  unfold actV
  clear hm hx hT e h
  go_enter Try.func10, Try.ntmps10
  go_wp2_with (go_at_call 25; refine HM.out.mono ?_; rintro e w2 ⟨rfl, hs2, ho2⟩; have hbx := HBX.out.soft ho2; obtain ⟨e0, e1, e2, e3, e4, f0, f1, f2, f3, f4⟩ := hbx.at)
  exact bodyPost_ret (v := .agg #[.int .i64 0, .string ⟨#[]⟩, .int .i64 0, .int .i64 0, .int .i64 0]) (by simp [results, Try.results10, go_sem, e0, e1, e2, e3, e4]) rfl (perf_end hs2 ho2 hbx hB HX.out)

set_option maxRecDepth 100000 in
set_option maxHeartbeats 1000000 in
theorem perf_flush (b k : Int) (d : ByteArray) (w : World) (h : St B W0 w g n s) :
    Calls Try.prog 10 #[.pointer (some ⟨g, 0, none⟩), actV ⟨6, b, d, k⟩] w (PerfRet B W0 w g n (EM.step s ⟨6, b, d, k⟩)) := by
  obtain ⟨T, hT⟩ : ∃ T, T = EM.step s ⟨6, b, d, k⟩ := ⟨_, rfl⟩
  have e : EM.step s ⟨6, b, d, k⟩ = ({ s with last := s.deals.length }, EM.ok) := rfl
  have hinv := EM.step_inv h.1 ⟨6, b, d, k⟩
  obtain ⟨hi, vi, vb, si, sb, wv, hc⟩ := h
  obtain ⟨LG, hLG⟩ : ∃ LG, LG = logB s := ⟨_, rfl⟩
  have hdur : durN { s with last := s.deals.length } = LG.size := by
    rw [hLG, log_size]
    show (bytesOf (s.deals.take s.deals.length)).length = _
    rw [List.take_length]
  have hx : ansV T.2 = .agg #[.int .i64 0, .string ⟨#[]⟩, .int .i64 0, .int .i64 0, .int .i64 0] := by rw [hT]; rfl
  have hs2 : St B W0 (w.setCell ⟨g, 5, none⟩ (.int .i64 (LG.size : Int))) g n T.1 := by
    rw [← hT] at hinv
    refine ⟨hinv, vi, vb, si, sb, wv, ?_⟩
    rw [hT, e]
    simp only
    rw [hdur]
    exact hc.setDur _
  have hso := hc.soft 5 (.int .i64 (LG.size : Int))
  have c4 := hc.c4
  have c5 := hc.c5
  have f5 := hc.fz 5
  have hg1 := hc.lt
  rw [← hLG] at c4
  have hbl : Below (w.setCell ⟨g, 5, none⟩ (.int .i64 (LG.size : Int))).heap.size (w.setCell ⟨g, 5, none⟩ (.int .i64 (LG.size : Int))) (((w.setCell ⟨g, 5, none⟩ (.int .i64 (LG.size : Int))).alloc (.cells #[.int .i64 6, .int .i64 b, .string d, .int .i64 k] 41)).alloc (.cells #[.int .i64 0, .string ⟨#[]⟩, .int .i64 0, .int .i64 0, .int .i64 0] 43)) := below_alloc (below_alloc (Below.refl _ _) _) _
  have HS := Lib.hid (hs2.keep hbl)
  have HSO := Lib.hid (hso.trans (.of_below hbl))
  have HX := Lib.hid hx
  have n1 : ¬ g = w.heap.size := by omega
  have n2 : ¬ g = w.heap.size + 1 := by omega
  have n3 : ¬ w.heap.size = g := by omega
  have n4 : ¬ w.heap.size + 1 = g := by omega
  rw [← hT]
  unfold actV
  clear hx hT e hinv hi hc hdur hs2 hso hLG hbl
  go_enter Try.func10, Try.ntmps10
  go_wp2
  exact bodyPost_ret (v := .agg #[.int .i64 0, .string ⟨#[]⟩, .int .i64 0, .int .i64 0, .int .i64 0]) (by simp [results, Try.results10, go_sem]) rfl ⟨by rw [HX.out], HS.out, HSO.out⟩

set_option maxRecDepth 100000 in
set_option maxHeartbeats 1000000 in
theorem perf_stat (b k : Int) (d : ByteArray) (w : World) (h : St B W0 w g n s) :
    Calls Try.prog 10 #[.pointer (some ⟨g, 0, none⟩), actV ⟨9, b, d, k⟩] w (PerfRet B W0 w g n (EM.step s ⟨9, b, d, k⟩)) := by
  obtain ⟨T, hT⟩ : ∃ T, T = EM.step s ⟨9, b, d, k⟩ := ⟨_, rfl⟩
  have e : EM.step s ⟨9, b, d, k⟩ = (s, { EM.ok with items := (s.now.items.length : Int), log := ((bytesOf s.deals).length : Int) }) := rfl
  have h' := h
  obtain ⟨hi, vi, vb, si, sb, wv, hc⟩ := h'
  obtain ⟨pv, cv, qv, dv, rfl, rfl⟩ := hc.vol.slices
  have c0 := hc.c0
  have c4 := hc.c4
  have hg1 := hc.lt
  obtain ⟨LG, hLG⟩ : ∃ LG, LG = logB s := ⟨_, rfl⟩
  obtain ⟨NI, hNI⟩ : ∃ NI, NI = s.now.items.length := ⟨_, rfl⟩
  have hx : ansV T.2 = .agg #[.int .i64 0, .string ⟨#[]⟩, .int .i64 (NI : Int), .int .i64 (LG.size : Int), .int .i64 0] := by rw [hT, hNI, hLG, log_size]; rfl
  have hs1 : T.1 = s := by rw [hT]; rfl
  rw [← hLG] at c4
  rw [← hNI] at c0
  have HX := Lib.hid hx
  have HS1 := Lib.hid hs1
  have HH := Lib.hid h
  have n1 : ¬ g = w.heap.size := by omega
  have n2 : ¬ g = w.heap.size + 1 := by omega
  have n3 : ¬ w.heap.size = g := by omega
  have n4 : ¬ w.heap.size + 1 = g := by omega
  rw [← hT]
  unfold actV
  clear hx hT e h hi hc hLG hNI hs1
  go_enter Try.func10, Try.ntmps10
  go_wp2
  go_region_held3 (fun w' => w'.cell? ⟨g, 0, none⟩ = some (.slice pv NI cv) ∧ w'.cell? ⟨g, 4, none⟩ = some (.string LG)) (go_keep) (fail)
  go_wp2
  have hbl : Below w.heap.size w ((w.alloc (.cells #[.int .i64 9, .int .i64 b, .string d, .int .i64 k] 41)).alloc (.cells #[.int .i64 0, .string ⟨#[]⟩, .int .i64 (NI : Int), .int .i64 (LG.size : Int), .int .i64 0] 43)).drew := (below_alloc (below_alloc (Below.refl _ _) _) _).drew
  exact bodyPost_ret (v := .agg #[.int .i64 0, .string ⟨#[]⟩, .int .i64 (NI : Int), .int .i64 (LG.size : Int), .int .i64 0]) (by simp [results, Try.results10, go_sem]) rfl ⟨by rw [HX.out], by rw [HS1.out]; exact HH.out.keep hbl, .of_below hbl⟩

set_option maxRecDepth 100000 in
set_option maxHeartbeats 1000000 in
theorem perf_odd (q b k : Int) (d : ByteArray) (hq : q < 1 ∨ 9 < q) (w : World) (h : St B W0 w g n s) :
    Calls Try.prog 10 #[.pointer (some ⟨g, 0, none⟩), actV ⟨q, b, d, k⟩] w (PerfRet B W0 w g n (EM.step s ⟨q, b, d, k⟩)) := by
  rw [EM.step_odd s ⟨q, b, d, k⟩ hq]
  have t1 : (q == 1) = false := by simp; omega
  have t2 : (q == 2) = false := by simp; omega
  have t3 : (q == 3) = false := by simp; omega
  have t4 : (q == 4) = false := by simp; omega
  have t5 : (q == 5) = false := by simp; omega
  have t6 : (q == 6) = false := by simp; omega
  have t7 : (q == 7) = false := by simp; omega
  have t8 : (q == 8) = false := by simp; omega
  have t9 : (q == 9) = false := by simp; omega
  have HH := Lib.hid h
  unfold actV
  clear h hq
  go_enter Try.func10, Try.ntmps10
  go_wp2
  have hbl : Below w.heap.size w ((w.alloc (.cells #[.int .i64 q, .int .i64 b, .string d, .int .i64 k] 41)).alloc (.cells #[.int .i64 3, .string ⟨#[]⟩, .int .i64 0, .int .i64 0, .int .i64 0] 43)) := below_alloc (below_alloc (Below.refl _ _) _) _
  exact bodyPost_ret (v := .agg #[.int .i64 3, .string ⟨#[]⟩, .int .i64 0, .int .i64 0, .int .i64 0]) (by simp [results, Try.results10, go_sem]) rfl ⟨rfl, HH.out.keep hbl, .of_below hbl⟩

/-- any action -/
theorem perform_any (a : EM.Act) (ha : ActOk a) (w : World) (h : St B W0 w g n s) (hB : B ≤ w.heap.size) :
    Calls Try.prog 10 #[.pointer (some ⟨g, 0, none⟩), actV a] w (PerfRet B W0 w g n (EM.step s a)) := by
  obtain ⟨q, b, d, k⟩ := a
  by_cases h1 : q < 1 ∨ 9 < q
  · exact perf_odd q b k d h1 w h
  · obtain rfl | rfl | rfl | rfl | rfl | rfl | rfl | rfl | rfl : q = 1 ∨ q = 2 ∨ q = 3 ∨ q = 4 ∨ q = 5 ∨ q = 6 ∨ q = 7 ∨ q = 8 ∨ q = 9 := by omega
    · exact perf_begin b k d w h hB
    · exact perf_put b k d w h hB
    · exact perf_read b k d ha.block w h hB
    · exact perf_commit b k d w h hB
    · exact perf_abort b k d w h hB
    · exact perf_flush b k d w h
    · exact perf_crash b k d ha.keep w h hB
    · exact perf_mark b k d w h hB
    · exact perf_stat b k d w h
end
end Go.Proofs.Ythjaanhkmfiajac
