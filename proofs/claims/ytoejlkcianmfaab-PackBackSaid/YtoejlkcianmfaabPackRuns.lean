/- PackRuns: a run of 3 to 48 equal bytes is encoded in two bytes. No condition. -/
import Derived.Test.YtoejlkcianmfaabPressDecode
import Derived.Test.YtoejlkcianmfaabPackMath
import Derived.Test.YtoejlkcianmfaabPicked
import Derived.Test.YtoejlkcianmfaabLawEnd
import Derived.Test.YtoejlkcianmfaabConv
import Derived.Test.YtoejlkcianmfaabShelf
namespace Go.Proofs.Ytoejlkcianmfaab.packRuns
open Go.ChangeShapes Go.WideShapes Go.ChangeAt Go.RowKit PM

theorem repL (c : UInt8) : ∀ k : Nat, Lib.repeatL [c] k = List.replicate k c
  | 0 => by simp [Lib.repeatL]
  | k + 1 => by
    have := repL c k
    have e : Lib.repeatL [c] (k + 1) = c :: Lib.repeatL [c] k := by simp [Lib.repeatL]
    rw [e, this, List.replicate_succ]

def RetText (l : List UInt8) (w : World) (e : Ending) (w' : World) : Prop := ∃ b : ByteArray, e = .returned (.string b) ∧ b.data.toList = l ∧ Below w.heap.size w w'

theorem rep_any (c : UInt8) (k : Nat) (z : Int) (hz : z = (k : Int)) (hk : k ≤ 100) (w : World) :
    Calls Try.prog 8 #[.string ⟨#[c]⟩, .int .i64 z] w (RetText (List.replicate k c) w) := by
  subst hz
  have h := Try.strings_Repeat ⟨#[c]⟩ k w (by omega) (by show 1 * k ≤ _; omega)
  rw [show (⟨#[c]⟩ : ByteArray).data.toList = [c] from rfl, repL] at h
  exact h.mono fun e w' ⟨he, hb⟩ => ⟨_, he, rfl, hb⟩

set_option maxRecDepth 100000 in
theorem walk (c : UInt8) (n : Int) (hn : -9223372036854775808 ≤ n ∧ n ≤ 9223372036854775807) (w : World) :
    Calls Try.prog 4 #[.int .u8 (c.toNat : Int), .int .i64 n] w fun e w' => e = .returned (.bool true) ∧ Below w.heap.size w w' := by
  obtain ⟨hb1, hb2⟩ := pick_bd n 46 (by omega)
  obtain ⟨k, hk⟩ : ∃ k : Nat, pick n 46 = (k : Int) := ⟨(pick n 46).toNat, by omega⟩
  have hk46 : k < 46 := by omega
  have HK := Lib.hid hk
  clear hk hb1 hb2
  have hcv1 := conv_one (c.toNat : Int) c rfl
  have htwo : (125 : Int) + (3 + (k : Int)) = ((UInt8.ofNat (125 + (3 + k))).toNat : Int) := by rw [u8_of _ (by omega)]; omega
  obtain ⟨d, hd⟩ : ∃ d, d = UInt8.ofNat (125 + (3 + k)) := ⟨_, rfl⟩
  rw [← hd] at htwo
  have hcv2 := conv_two _ _ d c htwo rfl
  have hp : ∀ b : ByteArray, b.data.toList = List.replicate (3 + k) c → packed b = .tuple #[.string ⟨#[d, c]⟩, .int .i64 0] := by
    intro b hb
    have h48 : b.size ≤ 48 := by rw [← len_eq, hb]; simp; omega
    unfold packed
    rw [if_pos h48, hb, enc_rep c (3 + k) (by omega), ← hd]
  have HP := Lib.hid hp
  have HD := Lib.hid hd
  clear hd htwo hp
  go_enter Try.func4, Try.ntmps4
  go_wp2_with (first
    | (go_at_call 9; refine (picked_any n 46 hn (by omega) _).mono ?_; rw [HK.out]; rintro e w1 ⟨rfl, rfl⟩)
    | (go_at_call 8; refine (rep_any c (3 + k) _ (by omega) (by omega) _).mono ?_; rintro e w2 ⟨b, rfl, hb, hb2⟩; have HB := Lib.hid hb; clear hb)
    | (go_at_call 6; refine (Pack_any _ _).mono ?_; rw [HP.out _ HB.out]; rintro e w3 ⟨rfl, hb3⟩))
  go_ret
  exact ⟨rfl, below_alloc (below_then (below_then (below_alloc (Below.refl _ _) _) hb2) hb3) _⟩

set_option maxRecDepth 100000 in
theorem lifted (os : Os) (started : os.Started) (H : Type) (enc : TypeId × Value → H) :
    ReturnsInHanded {} Try.checked os 4 .any (Rows.packRunsSpec.pre6 enc Try.prog Try.f4 Rows.packRunsRow.domain false) (Rows.packRunsSpec.post enc Try.prog Try.f4 false true false false) := by
  refine returnsInHanded_of_change (C := Try.checked) Try.ownNone started (by kernel_rfl) Try.func4
    (ChangeSpec.witness6 (enc := enc) (C := Try.checked) false ⟨#[], #[.int .u8 0, .int .i64 0], []⟩ 8 (by kernel_rfl) (by kernel_rfl) (by kernel_rfl) (by kernel_rfl)) ?_
  intro W base args ds gs before hval0 hW hcnd _
  have hval : ∀ (j : Nat) t v, Try.f4.params[j]? = some t → args[j]? = some v → Value.okWide Try.prog W .any base t v := hval0
  have hW' := hW
  obtain ⟨p, q, hA0, hV, rfl, hfz, hnd⟩ := hW
  have hA : DataW.TrodAll enc Try.prog W 0 (fun _ => true) true Try.f4.params.toList args.toList ds p := hA0
  rw [Try.params4] at hA hval
  obtain ⟨v0, vs0, d0, ds0, p0, q0, hargs, rfl, rfl, h0, r0⟩ := trodAll_cons hA
  obtain ⟨v1, vs1, d1, ds1, p1, q1, rfl, rfl, rfl, h1, r1⟩ := trodAll_cons r0
  obtain ⟨rfl, rfl, rfl⟩ := trodAll_nil r1
  obtain rfl : args = #[v0, v1] := by cases args; simp_all
  obtain ⟨rfl, rfl⟩ := trodVars_none hV
  obtain ⟨a0, rfl, rfl, rfl, w0⟩ := open_int Try.underlying5 (hval 0 5 v0 rfl rfl) h0
  obtain ⟨a1, rfl, rfl, rfl, w1⟩ := open_int Try.underlying3 (hval 1 3 v1 rfl rfl) h1
  obtain ⟨c, rfl⟩ := u8_bd w0
  refine (walk c a1 (i64_bd w1) W).mono fun e W' ⟨he, hg⟩ => ?_
  subst he
  exact ⟨_, rfl, law_post Try.laidOut (by kernel_rfl) rfl (by kernel_rfl) Try.underlying4 rfl rfl rfl hW' hg⟩

theorem proved : Rows.PackRunsSaid :=
  OpenClaim.holds_of_wide 4 Try.f4 rfl rfl rfl rfl rfl rfl rfl ⟨rfl, rfl, rfl, rfl, rfl⟩ rfl rfl rfl rfl rfl (by kernel_rfl) Try.func4 (by kernel_rfl)
    (of_decide_eq_true (by kernel_rfl)) (by unfold Func.isWrapper; first | (rw [if_pos (by decide +kernel)]; kernel_rfl) | (rw [if_neg (by decide +kernel)]; exact ⟨rfl, rfl⟩))
    (fun os started H enc _ => lifted os started H enc)
#print axioms proved
end Go.Proofs.Ytoejlkcianmfaab.packRuns
