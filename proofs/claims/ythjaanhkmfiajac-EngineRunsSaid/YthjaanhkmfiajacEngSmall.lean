/- Package engine: begin, end, abort, read and what they leave of the state. No condition but that the state stands. -/
import Derived.Test.YthjaanhkmfiajacEngMem
import Derived.Test.YthjaanhkmfiajacEngFind
import Derived.Test.YthjaanhkmfiajacVolRead
namespace Go.Proofs.Ythjaanhkmfiajac
open Go.RowKit LM

/-- a method's end: a number, the state behind it -/
def ActRet (B : Nat) (W0 w : World) (g n : Nat) (s : EM.St) (c : Int) (e : Ending) (w' : World) : Prop := e = .returned (.int .i64 c) ∧ St B W0 w' g n s ∧ Soft w w'

section
variable {B : Nat} {W0 : World} {g n : Nat} {s : EM.St}

theorem begin_any (w : World) (h : St B W0 w g n s) :
    Calls Try.prog 19 #[.pointer (some ⟨g, 0, none⟩)] w (ActRet B W0 w g n (EM.step s (EM.act 1)).1 (EM.step s (EM.act 1)).2.code) := by
  rw [EM.step_begin]
  obtain ⟨hi, vi, vb, si, sb, wv, hc⟩ := h
  have c6 := hc.c6
  have fz := hc.fz 6
  have HC := Lib.hid hc
  have HI := Lib.hid hi
  clear hc hi
  cases hop : s.op with
  | true =>
    rw [hop] at c6
    go_enter Try.func19, Try.ntmps19
    go_wp2
    go_ret
    refine ⟨rfl, ?_, Soft.refl _⟩
    have : ({ s with op := true } : EM.St) = s := by rw [← hop]
    rw [this]
    exact ⟨HI.out, vi, vb, si, sb, wv, HC.out⟩
  | false =>
    rw [hop] at c6
    have HO := Lib.hid hop
    clear hop
    go_enter Try.func19, Try.ntmps19
    go_wp2
    go_ret
    refine ⟨rfl, ⟨?_, vi, vb, si, sb, wv, ?_⟩, HC.out.soft 6 _⟩
    · have := EM.step_inv HI.out (EM.act 1)
      rw [EM.step_begin] at this
      exact this
    · exact HC.out.setOp true

theorem end_any (w : World) {V S : Vol} {lg : ByteArray} {du : Int} {op : Bool} {L : List Wr} {vi vb si sb wv : Value} (h : StC B W0 w g V S lg du op L vi vb si sb wv) :
    Calls Try.prog 37 #[.pointer (some ⟨g, 0, none⟩)] w fun e w' => e = .returned (.tuple #[]) ∧ StC B W0 w' g V S lg du false [] vi vb si sb (.slice none 0 0) ∧ Soft w w' ∧ ∀ v M, OwnW B 61 v M W0 w → v.ownBlock ≠ some g → OwnW B 61 v M W0 w' := by
  have c6 := h.c6
  have c7 := h.c7
  have f6 := h.fz 6
  have f7 := h.fz 7
  have HC := Lib.hid h
  clear h
  go_enter Try.func37, Try.ntmps37
  go_wp2
  go_end0
  exact ⟨rfl, (HC.out.setOp false).noWr, HC.out.soft2 _ _ _ _, fun v M ho hne => own_set (own_set ho HC.out.ge hne) HC.out.ge hne⟩

theorem abort_any (w : World) (h : St B W0 w g n s) :
    Calls Try.prog 23 #[.pointer (some ⟨g, 0, none⟩)] w (ActRet B W0 w g n (EM.step s (EM.act 5)).1 (EM.step s (EM.act 5)).2.code) := by
  rw [EM.step_abort]
  obtain ⟨hi, vi, vb, si, sb, wv, hc⟩ := h
  have c6 := hc.c6
  have HI := Lib.hid hi
  cases hop : s.op with
  | true =>
    rw [hop] at c6
    have HC := Lib.hid hc
    have HO := Lib.hid hop
    clear hop hc hi
    go_enter Try.func23, Try.ntmps23
    go_wp2_with (go_at_call 37; refine (end_any _ HC.out).mono ?_; rintro e w1 ⟨rfl, hc1, hs1, _⟩)
    go_ret
    refine ⟨rfl, ⟨?_, vi, vb, si, sb, _, hc1⟩, hs1⟩
    have := EM.step_inv HI.out (EM.act 5)
    rw [EM.step_abort] at this
    exact this
  | false =>
    rw [hop] at c6
    have HC := Lib.hid hc
    have HO := Lib.hid hop
    clear hop hc hi
    go_enter Try.func23, Try.ntmps23
    go_wp2
    go_ret
    refine ⟨rfl, ?_, Soft.refl _⟩
    have : ({ s with op := false, l := [] } : EM.St) = s := by
      have h1 := HI.out.shut HO.out
      have h2 := HO.out
      cases s
      simp_all
    rw [this]
    exact ⟨HI.out, vi, vb, si, sb, wv, HC.out⟩

/-- what a Read answers -/
theorem step_readof {n : Nat} {s : EM.St} (hi : EM.Inv n s) {b : Int} {i : Nat} (hp : Place s.l b i) :
    (foundB s.l b i = true → ∃ x, s.l[i]? = some x ∧ (EM.step s (EM.readA b)).2 = ⟨0, x.data, 0, 0, 0⟩) ∧
    (foundB s.l b i = false → (EM.step s (EM.readA b)).2 = ⟨(readOf s.now b).2, (readOf s.now b).1, 0, 0, 0⟩) := by
  obtain ⟨hv, hl⟩ := hi.now
  rw [EM.step_read]
  constructor
  · intro hf
    have hfd := find_found hp hf
    cases hx : s.l[i]? with
    | none => unfold foundB at hf; rw [hx] at hf; cases hf
    | some x =>
      refine ⟨x, rfl, ?_⟩
      have hxb : x.block = b := by rw [foundB_some hx] at hf; simpa using hf
      have hw := hi.l.all x (List.mem_of_getElem? hx)
      have hr : (readOf s.now b).2 = 0 := by
        obtain ⟨m, rfl⟩ : ∃ m : Nat, b = (m : Int) := ⟨b.toNat, by omega⟩
        rw [readOf_ok hv (by omega)]
      rw [hr, hfd, hx]
  · intro hf
    rw [find_new hi.l.up hp hf]

set_option maxRecDepth 100000 in
set_option maxHeartbeats 1000000 in
theorem read_any (b : Int) (hb : -9223372036854775808 ≤ b ∧ b ≤ 9223372036854775807) (w : World) (h : St B W0 w g n s) :
    Calls Try.prog 21 #[.pointer (some ⟨g, 0, none⟩), .int .i64 b] w fun e w' => e = .returned (.tuple #[.string (EM.step s (EM.readA b)).2.data, .int .i64 (EM.step s (EM.readA b)).2.code]) ∧ Below w.heap.size w w' := by
  obtain ⟨hi, vi, vb, si, sb, wv, hc⟩ := h
  have hwv := hc.writes.writes (by have := hi.l.len; omega)
  have hf := efind_any wv s.l b w hwv hi.l.up hi.l.len
  have c0 := hc.c0
  have c1 := hc.c1
  have c7 := hc.c7
  have hg := hc.lt
  have HC := Lib.hid hc
  have HI := Lib.hid hi
  have HF := Lib.hid hf
  have HW := Lib.hid hwv
  clear hc hi hf hwv
  go_enter Try.func21, Try.ntmps21
  go_upto_region 2 with (go_at_call 34; refine HF.out.mono ?_; rintro e w1 ⟨i, hpl, rfl, hb1⟩)
  obtain ⟨hs1, hs2⟩ := step_readof HI.out hpl
  replace c0 := (hb1.cell (p := ⟨g, 0, none⟩) hg).trans c0
  replace c1 := (hb1.cell (p := ⟨g, 1, none⟩) hg).trans c1
  replace c7 := (hb1.cell (p := ⟨g, 7, none⟩) hg).trans c7
  have hpi := hpl.le
  have h12 := HI.out.l.len
  cases hfd : foundB s.l b i with
  | true =>
    obtain ⟨x, hx, hst⟩ := hs1 hfd
    obtain ⟨p, cap, hwv', _, _, hcell⟩ := HW.out
    subst hwv'
    obtain ⟨bk, off, rfl, hbl, _, d1⟩ := hcell i x hx
    replace d1 := (hb1.cell (p := ⟨bk, _, none⟩) hbl).trans d1
    have hilt := (List.getElem?_eq_some_iff.1 hx).1
    have hi0 : (0 : Int) ≤ (i : Int) := by omega
    have hi1 : (i : Int) < (s.l.length : Int) := by omega
    have HST := Lib.hid hst
    clear hs1 hs2 hfd hx hcell hst hpl
    go_wp2
    go_ret2
    rw [HST.out]
    exact ⟨rfl, hb1⟩
  | false =>
    have hst := hs2 hfd
    have hat := HC.out.vol.keep hb1
    have hwz := HI.out.now.1.wideZ
    have hr := VRead_any _ s.now b hb w1 hat.at hwz
    have HR := Lib.hid hr
    have HST := Lib.hid hst
    clear hs1 hs2 hfd hst hat hwz hr hpl
    go_wp2_with (go_at_call 36; refine HR.out.mono ?_; rintro e w2 ⟨rfl, hb2⟩)
    go_ret2
    rw [HST.out]
    exact ⟨rfl, below_then hb1 hb2⟩
end
end Go.Proofs.Ythjaanhkmfiajac
