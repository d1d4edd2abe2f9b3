/- PressUnpacks: for every text, press.Unpack gives what the document's answer gives. No condition. -/
import Derived.Test.YtoejlkcianmfaaaPressUnref
import Derived.SizedLaws
import Derived.Test.YtoejlkcianmfaaaLawEnd
import Derived.ShutString
namespace Go.Proofs.Ytoejlkcianmfaaa.pressUnpacks
open Go.ChangeShapes Go.WideShapes Go.ChangeAt Go.RowKit PM
open Go.ChangeMaps (open_string shut_string)

/-- the two shapes of Unpack's result -/
theorem unpacked_shape (s : ByteArray) : ∃ (t : ByteArray) (n : Nat), unpacked s = .tuple #[.string t, .int .i64 n] := by
  unfold unpacked
  split
  · split
    · exact ⟨_, 0, rfl⟩
    · exact ⟨_, 4, rfl⟩
  · exact ⟨_, _, rfl⟩

set_option maxRecDepth 100000 in
theorem walk (s : ByteArray) (hs : s.size ≤ 4611686018427387904) (w : World) :
    Calls Try.prog 4 #[.string s] w fun e w' => e = .returned (.bool true) ∧ Below w.heap.size w w' := by
  obtain ⟨t, n, hp⟩ := unpacked_shape s
  have HP := Lib.hid hp
  clear hp
  go_enter Try.func4, Try.ntmps4
  go_wp2_with (first
    | (go_at_call 7; refine (Unpack_any s _).mono ?_; rw [HP.out]; rintro e w1 ⟨rfl, hb1⟩)
    | (go_at_call 8; refine (UnpackedOf_any s hs _).mono ?_; rw [HP.out]; rintro e w2 ⟨rfl, hb2⟩))
  go_ret
  exact ⟨rfl, hb1.trans (hb2.mono hb1.size)⟩

set_option maxRecDepth 100000 in
theorem lifted (os : Os) (started : os.Started) (H : Type) (enc : TypeId × Value → H) :
    ReturnsInHanded {} Try.checked os 4 .any (Rows.pressUnpacksSpec.pre6 enc Try.prog Try.f4 Rows.pressUnpacksRow.domain false) (Rows.pressUnpacksSpec.post enc Try.prog Try.f4 false true false false) := by
  refine returnsInHanded_of_change_sized (C := Try.checked) Try.ownNone started (by kernel_rfl) Try.func4
    (ChangeSpec.witness6 (enc := enc) (C := Try.checked) false ⟨#[], #[.string ByteArray.empty], []⟩ 8 (by kernel_rfl) (by kernel_rfl) (by kernel_rfl) (by kernel_rfl)) ?_
  intro W base args ds gs before hval0 hW hcnd hsz0 _
  have hsz : (DataW.weightsEach Try.prog (Try.f4.params.toList ++ Rows.pressUnpacksSpec.plain.varTypes Try.prog) (ds ++ gs)).all (· ≤ reachBytes) = true := hsz0
  have hval : ∀ (j : Nat) t v, Try.f4.params[j]? = some t → args[j]? = some v → Value.okWide Try.prog W .any base t v := hval0
  have hW' := hW
  obtain ⟨p, q, hA0, hV, rfl, hfz, hnd⟩ := hW
  have hA : DataW.TrodAll enc Try.prog W 0 (fun _ => true) true Try.f4.params.toList args.toList ds p := hA0
  rw [Try.params4] at hA hval hsz
  obtain ⟨v0, vs0, d0, ds0, p0, q0, hargs, rfl, rfl, h0, r0⟩ := trodAll_cons hA
  obtain ⟨rfl, rfl, rfl⟩ := trodAll_nil r0
  obtain rfl : args = #[v0] := by cases args; simp_all
  obtain ⟨rfl, rfl⟩ := trodVars_none hV
  obtain ⟨a0, rfl, rfl, rfl, _⟩ := open_string Try.underlying9 (hval 0 9 v0 rfl rfl) h0
  have hlen : a0.size ≤ 4611686018427387904 := by
    have h := sized_string hsz (j := 0) (t := 9) rfl rfl
    rw [len_eq] at h
    exact Nat.le_trans h (by decide)
  refine (walk a0 hlen W).mono fun e W' ⟨he, hg⟩ => ?_
  subst he
  exact ⟨_, rfl, law_post Try.laidOut (by kernel_rfl) rfl (by kernel_rfl) Try.underlying4 rfl rfl rfl hW' hg⟩

theorem proved : Rows.PressUnpacksSaid :=
  OpenClaim.holds_of_wide 4 Try.f4 rfl rfl rfl rfl rfl rfl rfl ⟨rfl, rfl, rfl, rfl, rfl⟩ rfl rfl rfl rfl rfl (by kernel_rfl) Try.func4 (by kernel_rfl)
    (of_decide_eq_true (by kernel_rfl)) (by unfold Func.isWrapper; first | (rw [if_pos (by decide +kernel)]; kernel_rfl) | (rw [if_neg (by decide +kernel)]; exact ⟨rfl, rfl⟩))
    (fun os started H enc _ => lifted os started H enc)
#print axioms proved
end Go.Proofs.Ytoejlkcianmfaaa.pressUnpacks
