/- EngineRuns: for every number of blocks and all actions, engine.Run gives what the document's answer gives. No condition. -/
import Derived.Test.YthjaanhkmfiajacRefScript
import Derived.Test.YthjaanhkmfiajacRefScriptOf
import Derived.Test.YthjaanhkmfiajacRefScriptBad
import Derived.Test.YthjaanhkmfiajacRefEnd
import Derived.Test.YthjaanhkmfiajacRefVols
namespace Go.Proofs.Ythjaanhkmfiajac.engineRuns
open Go.ChangeShapes Go.WideShapes Go.ChangeAt Go.RowKit
open Go.ChangeMaps (open_string shut_string)

open LM EM
theorem infoAct : (Try.prog.info? 41).map (fun i => (i.zero, i.size, i.bytes)) = some (some (.agg #[.int .i64 0, .int .i64 0, .string ⟨#[]⟩, .int .i64 0]), 4, 40) := by kernel_rfl
/-- both sides answer with these answers, this volume, this code -/
def Gives (A : List EM.Ans) (V : Vol) (c : Int) (w : World) (e : Ending) (w' : World) : Prop := ∃ v x y, e = .returned (.tuple #[v, .agg #[x, y], .int .i64 c]) ∧ RowsAt ansC 5 w' v A ∧ VolAt w' (.agg #[x, y]) V ∧ Below w.heap.size w w'
theorem Gives.ofBad {c : Int} {w : World} {e : Ending} {w' : World} (h : RunBad c w e w') : Gives [] ⟨[], []⟩ c w e w' :=
  ⟨_, _, _, h.1, ⟨none, 0, rfl, by simp, fun _ => rfl, fun i x hx => by simp at hx⟩, (VolTy.nil w').at, h.2⟩
def Both (n : Int) (L : List EM.Act) (A : List EM.Ans) (V : Vol) (c : Int) : Prop :=
  (∀ v w, ActsAt w v L → Calls Try.prog 4 #[.int .i64 n, v] w (Gives A V c w)) ∧
  (∀ v w, ActsAt w v L → Calls Try.prog 5 #[.int .i64 n, v] w (Gives A V c w))
theorem both (n : Int) (L : List EM.Act) (hok : ∀ a ∈ L, ActOk a) : ∃ A V c, Both n L A V c := by
  by_cases hn : 1 ≤ n ∧ n ≤ 32
  · obtain ⟨m, rfl⟩ : ∃ m : Nat, n = (m : Int) := ⟨n.toNat, by omega⟩
    have hm : 1 ≤ m ∧ m ≤ 32 := by omega
    by_cases hl : L.length ≤ 300
    · refine ⟨(EM.runL (EM.start m) L).2, (EM.runL (EM.start m) L).1.now, 0, fun v w h => (Run_ok m hm v L hl hok w h).mono ?_, fun v w h => (ScriptOf_ok Acted_any m hm v L hl hok w h).mono ?_⟩
      · rintro e w' ⟨v, x, y, he, ho, hv⟩
        refine ⟨v, x, y, he, ho.rows ansE ?_, hv.at, ho.below⟩
        rw [EM.runL_len]
        omega
      · rintro e w' ⟨v, x, y, he, hr, hv, hb⟩
        exact ⟨v, x, y, he, hr, hv, hb⟩
    · refine ⟨[], ⟨[], []⟩, 1, fun v w h => ?_, fun v w h => ?_⟩
      · obtain ⟨p, c, rfl, _⟩ := h
        exact (Run_size m hm p L.length c (by omega) w).mono fun _ _ => Gives.ofBad
      · obtain ⟨p, c, rfl, _⟩ := h
        exact (ScriptOf_size m hm p L.length c (by omega) w).mono fun _ _ => Gives.ofBad
  · exact ⟨[], ⟨[], []⟩, 2, fun v w _ => (Run_range n hn v w).mono fun _ _ => Gives.ofBad, fun v w _ => (ScriptOf_range n hn v w).mono fun _ _ => Gives.ofBad⟩

set_option maxRecDepth 100000 in
set_option maxHeartbeats 4000000 in
theorem walk (n : Int) (v : Value) (L : List EM.Act) (w : World) (_ : -9223372036854775808 ≤ n ∧ n ≤ 9223372036854775807) (hL : ActsAt w v L) (hok : ∀ a ∈ L, ActOk a) (hB : L.length * 40 ≤ 140737488351232) :
    Calls Try.prog 3 #[.int .i64 n, v] w fun e w' => e = .returned (.bool true) ∧ Below w.heap.size w w' := by
  obtain ⟨i0, hi, hz0, hz1, hz2⟩ := info_parts infoAct
  obtain ⟨A, V, c, hrun, hscr⟩ := both n L hok
  have HRUN := Lib.hid hrun
  have HSCR := Lib.hid hscr
  have HL := Lib.hid hL
  have hL' := hL
  obtain ⟨pl, cl, rfl, _⟩ := hL'
  clear hrun hscr hok hL
  go_enter Try.func3, Try.ntmps3
  go_wp2_with (first
    | (at_builtin; refine wpList_nil_rs actE rfl (.const (.slice none 0 0)) (.tmp 13) 22 rfl w.heap.size 41 i0 _ 40 Try.underlying22 hi hz0 rfl hz1 hz2 rfl w L _ (OwnR.nil (Below.refl _ _) (Nat.le_refl _)) HL.out rfl (by omega) ?_; intro v1 w1 ho1; obtain ⟨p1, c1, rfl⟩ := ho1.isSlice; have hb1 := ho1.below; have HR1 := Lib.hid (ho1.rows actE (by omega)); clear ho1)
    | (go_at_call 4; refine (HRUN.out _ _ HR1.out).mono ?_; rintro e w2 ⟨v2, x2, y2, rfl, hr2, hv2, hb2⟩; have HV2 := Lib.hid hv2; have HA2 := Lib.hid hr2; obtain ⟨vi, vb, e2, ⟨pi, ci, rfl, _⟩, ⟨pz, cz, rfl, _⟩⟩ := hv2; cases e2; obtain ⟨pa, ca, rfl, _⟩ := hr2; have hb02 := below_then hb1 hb2; have hB2 := Lib.hid (VBox.new w2 (.slice pi V.items.length ci) (.slice pz V.blocks.length cz)); have hb03 := below_then hb02 (below_alloc (Below.refl _ _) (.cells #[.slice pi V.items.length ci, .slice pz V.blocks.length cz] 27)); have HV3 := Lib.hid (HV2.out.keep (below_alloc (Below.refl _ _) (.cells #[.slice pi V.items.length ci, .slice pz V.blocks.length cz] 27))); have HA3 := Lib.hid (HA2.out.keep (below_alloc (Below.refl _ _) (.cells #[.slice pi V.items.length ci, .slice pz V.blocks.length cz] 27))); have HL3 := Lib.hid (HL.out.keep hb03); clear HV2 HA2 hb1 hb2 HR1)
    | (go_at_call 5; refine (HSCR.out _ _ HL3.out).mono ?_; rintro e w4 ⟨v4, x4, y4, rfl, hr4, hv4, hb4⟩; have HV4 := Lib.hid hv4; have HA4 := Lib.hid hr4; obtain ⟨vi4, vb4, e4, ⟨qi, di, rfl, _⟩, ⟨qz, dz, rfl, _⟩⟩ := hv4; cases e4; obtain ⟨qa, da, rfl, _⟩ := hr4; have hal4 := below_alloc (Below.refl w4.heap.size w4) (.cells #[.slice qi V.items.length di, .slice qz V.blocks.length dz] 27); have hb34 := below_then hb4 hal4; have hb05 := below_then hb03 hb34; have HV5 := Lib.hid (HV3.out.keep hb34); have HA5 := Lib.hid (HA3.out.keep hb34); have HU5 := Lib.hid (HV4.out.keep hal4); have HE5 := Lib.hid (HA4.out.keep hal4); have HB5 := Lib.hid (hB2.out.keep hb34); have HC5 := Lib.hid (VBox.new w4 (.slice qi V.items.length di) (.slice qz V.blocks.length dz)); clear HV3 HA3 HV4 HA4 hB2 hal4 hb34 hb4)
    | (go_at_call 6; refine (sameAnswers_any _ _ A _ HA5.out HE5.out).mono ?_; rintro e w6 ⟨rfl, hb6⟩; obtain ⟨a0, a1, _, _⟩ := (HB5.out.keep hb6).at; obtain ⟨b0, b1, _, _⟩ := (HC5.out.keep hb6).at; have hb06 := below_then hb05 hb6; have HV6 := Lib.hid (HV5.out.keep hb6); have HU6 := Lib.hid (HU5.out.keep hb6))
    | (go_at_call 7; refine (sameVolume_any _ _ V _ HV6.out HU6.out).mono ?_; rintro e w7 ⟨rfl, hb7⟩))
  go_ret
  exact ⟨rfl, below_then hb06 hb7⟩

set_option maxRecDepth 100000 in
theorem lifted (os : Os) (started : os.Started) (H : Type) (enc : TypeId × Value → H) :
    ReturnsInHanded {} Try.checked os 3 .any (Rows.engineRunsSpec.pre6 enc Try.prog Try.f3 Rows.engineRunsRow.domain false) (Rows.engineRunsSpec.post enc Try.prog Try.f3 false true false false) := by
  refine returnsInHanded_of_change_sized (C := Try.checked) Try.ownNone started (by kernel_rfl) Try.func3
    (ChangeSpec.witness6 (enc := enc) (C := Try.checked) false ⟨#[], #[.int .i64 0, .slice none 0 0], []⟩ 8 (by kernel_rfl) (by kernel_rfl) (by kernel_rfl) (by kernel_rfl)) ?_
  intro W base args ds gs before hval0 hW hcnd hsz0 _
  have hsz : (DataW.weightsEach Try.prog (Try.f3.params.toList ++ Rows.engineRunsSpec.plain.varTypes Try.prog) (ds ++ gs)).all (· ≤ reachBytes) = true := hsz0
  have hval : ∀ (j : Nat) t v, Try.f3.params[j]? = some t → args[j]? = some v → Value.okWide Try.prog W .any base t v := hval0
  have hW' := hW
  obtain ⟨p, q, hA0, hV, rfl, hfz, hnd⟩ := hW
  have hA : DataW.TrodAll enc Try.prog W 0 (fun _ => true) true Try.f3.params.toList args.toList ds p := hA0
  rw [Try.params3] at hA hval hsz
  obtain ⟨v0, vs0, d0, ds0, p0, q0, hargs, rfl, rfl, h0, r0⟩ := trodAll_cons hA
  obtain ⟨v1, vs1, d1, ds1, p1, q1, rfl, rfl, rfl, h1, r1⟩ := trodAll_cons r0
  obtain ⟨rfl, rfl, rfl⟩ := trodAll_nil r1
  obtain rfl : args = #[v0, v1] := by cases args; simp_all
  obtain ⟨rfl, rfl⟩ := trodVars_none hV
  obtain ⟨a0, rfl, rfl, rfl, wf0⟩ := open_int Try.underlying3 (hval 0 3 v0 rfl rfl) h0
  obtain ⟨ad1, ln1, cp1, rfl⟩ := okWide_slice Try.underlying22 (hval 1 22 v1 rfl rfl)
  obtain ⟨fuel1, hf1⟩ := h1
  obtain ⟨L1, hL1, hOK1, hB1⟩ := open_acts hf1 (fun elems spare hd => by
    subst hd
    have h := sized_slice hsz (j := 1) (t := 22) rfl rfl Try.underlying22
    rw [Try.actBytes] at h
    exact h)
  refine (walk a0 _ L1 W (i64_bd wf0) hL1 hOK1 hB1).mono fun e W' ⟨he, hg⟩ => ?_
  subst he
  exact ⟨_, rfl, law_post Try.laidOut (by kernel_rfl) rfl (by kernel_rfl) Try.underlying4 rfl rfl rfl hW' hg⟩

theorem proved : Rows.EngineRunsSaid :=
  OpenClaim.holds_of_wide 3 Try.f3 rfl rfl rfl rfl rfl rfl rfl ⟨rfl, rfl, rfl, rfl, rfl⟩ rfl rfl rfl rfl rfl (by kernel_rfl) Try.func3 (by kernel_rfl)
    (of_decide_eq_true (by kernel_rfl)) (by unfold Func.isWrapper; first | (rw [if_pos (by decide +kernel)]; kernel_rfl) | (rw [if_neg (by decide +kernel)]; exact ⟨rfl, rfl⟩))
    (fun os started H enc _ => lifted os started H enc)
#print axioms proved
end Go.Proofs.Ythjaanhkmfiajac.engineRuns
