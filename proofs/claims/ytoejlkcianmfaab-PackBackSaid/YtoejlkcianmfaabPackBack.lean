/- PackBack: unpacking what was packed gives it back, it is at most one byte longer, and nothing else is unpacked. No condition. -/
import Derived.Test.YtoejlkcianmfaabPackRuns
namespace Go.Proofs.Ytoejlkcianmfaab.packBack
open Go.ChangeShapes Go.WideShapes Go.ChangeAt Go.RowKit PM
open Go.ChangeMaps (open_string shut_string)
open packRuns (rep_any)

theorem rep_size {b : ByteArray} {k : Nat} {c : UInt8} (h : b.data.toList = List.replicate k c) : b.size = k := by rw [← len_eq, h]; simp

theorem packed_long {s : ByteArray} (h : ¬ s.size ≤ 48) : packed s = .tuple #[.string ⟨#[]⟩, .int .i64 1] := if_neg h

theorem packed_short (a : ByteArray) (h : a.size ≤ 48) : ∃ p : ByteArray, p.data.toList = enc a.data.toList ∧ packed a = .tuple #[.string p, .int .i64 0] := ⟨⟨(enc a.data.toList).toArray⟩, rfl, if_pos h⟩

theorem unpacked_back {a p : ByteArray} (h : a.size ≤ 48) (hp : p.data.toList = enc a.data.toList) : unpacked p = .tuple #[.string a, .int .i64 0] := by
  have h1 := dec_enc _ a.data.toList [] rfl (by rw [len_eq]; simpa using h)
  rw [← hp, List.nil_append] at h1
  rw [unpacked_ok h1 hp.symm]

theorem unpacked_cases (t : ByteArray) : (∃ n : Nat, ((n : Int) == 0) = false ∧ unpacked t = .tuple #[.string ⟨#[]⟩, .int .i64 n]) ∨
    ∃ u : ByteArray, u.size ≤ 48 ∧ enc u.data.toList = t.data.toList ∧ unpacked t = .tuple #[.string u, .int .i64 0] := by
  cases hd : dec [] t.data.toList with
  | err n => exact Or.inl ⟨n, by rcases dec_err _ _ _ _ rfl hd with rfl | rfl <;> rfl, unpacked_err hd⟩
  | ok l =>
    by_cases he : enc l = t.data.toList
    · exact Or.inr ⟨⟨l.toArray⟩, dec_ok_le _ _ _ _ rfl (by simp) hd, he, unpacked_ok hd he⟩
    · exact Or.inl ⟨4, rfl, unpacked_form hd he⟩

theorem slice_to (s : ByteArray) (z : Int) (n : Nat) (hz : z = n) (hn : n ≤ s.size) : (Instr.slice 9 (.string s) none (some (.int .i64 z)) none).run Try.prog = fun W => .ok (.string (s.extract 0 n)) W := by
  funext W
  subst hz
  rw [run_slice_string_to_if W 9 s .i64 _ Try.underlying9, if_pos ⟨by omega, by omega⟩]
  rfl

set_option maxRecDepth 100000 in
set_option maxHeartbeats 1000000 in
theorem walk (s t : ByteArray) (w : World) :
    Calls Try.prog 3 #[.string s, .string t] w fun e w' => e = .returned (.bool true) ∧ Below w.heap.size w w' := by
  have hsl := slice_to s (min (s.size : Int) 48) (min s.size 48) (by omega) (by omega)
  obtain ⟨a, ha⟩ : ∃ a, a = s.extract 0 (min s.size 48) := ⟨_, rfl⟩
  rw [← ha] at hsl
  have ha48 : a.size ≤ 48 := by rw [ha, ByteArray.size_extract]; omega
  clear ha
  obtain ⟨p, hp, hpa⟩ := packed_short a ha48
  have hpl : p.size ≤ a.size + 1 := by
    have := (enc_len1 _ a.data.toList rfl).1
    rw [← hp, len_eq, len_eq] at this
    exact this
  have hup := unpacked_back ha48 hp
  have HPA := Lib.hid hpa
  have HUP := Lib.hid hup
  clear hp hpa hup
  rcases unpacked_cases t with ⟨n, hn, hut⟩ | ⟨u, hu48, hue, hut⟩
  · have HUT := Lib.hid hut
    clear hut
    go_enter Try.func3, Try.ntmps3
    go_wp2_with (first
      | (go_at_call 6; refine (Pack_any _ _).mono ?_; rw [HPA.out]; rintro e w1 ⟨rfl, hb1⟩)
      | (go_at_call 7; refine (Unpack_any _ _).mono ?_; rw [HUP.out]; rintro e w2 ⟨rfl, hb2⟩)
      | (go_at_call 8; refine (rep_any 120 (49 - a.size) _ (by omega) (by omega) _).mono ?_; rintro e w3 ⟨b, rfl, hb, hb3⟩; have hbs := rep_size hb; have hbl : b.size ≤ 49 - a.size := (by omega); have hbg : 49 - a.size ≤ b.size := (by omega); clear hb hbs)
      | (go_at_call 6; refine (Pack_any _ _).mono ?_; rw [packed_long (by rw [ByteArray.size_append]; omega)]; rintro e w4 ⟨rfl, hb4⟩)
      | (go_at_call 7; refine (Unpack_any _ _).mono ?_; rw [HUT.out]; rintro e w5 ⟨rfl, hb5⟩))
    go_ret
    exact ⟨rfl, below_then (below_then (below_then (below_then hb1 hb2) hb3) hb4) hb5⟩
  · have HUT := Lib.hid hut
    obtain ⟨q, hq, hpu⟩ := packed_short u hu48
    have HPU := Lib.hid hpu
    have hcmp : (!(q.toList == t.toList)) = false := by rw [ByteArray.toList_eq, ByteArray.toList_eq, hq, hue]; simp
    clear hut hpu hq hue
    go_enter Try.func3, Try.ntmps3
    go_wp2_with (first
      | (go_at_call 6; refine (Pack_any _ _).mono ?_; rw [HPA.out]; rintro e w1 ⟨rfl, hb1⟩)
      | (go_at_call 7; refine (Unpack_any _ _).mono ?_; rw [HUP.out]; rintro e w2 ⟨rfl, hb2⟩)
      | (go_at_call 8; refine (rep_any 120 (49 - a.size) _ (by omega) (by omega) _).mono ?_; rintro e w3 ⟨b, rfl, hb, hb3⟩; have hbs := rep_size hb; have hbl : b.size ≤ 49 - a.size := (by omega); have hbg : 49 - a.size ≤ b.size := (by omega); clear hb hbs)
      | (go_at_call 6; refine (Pack_any _ _).mono ?_; rw [packed_long (by rw [ByteArray.size_append]; omega)]; rintro e w4 ⟨rfl, hb4⟩)
      | (go_at_call 7; refine (Unpack_any _ _).mono ?_; rw [HUT.out]; rintro e w5 ⟨rfl, hb5⟩)
      | (go_at_call 6; refine (Pack_any _ _).mono ?_; rw [HPU.out]; rintro e w6 ⟨rfl, hb6⟩))
    go_ret
    exact ⟨rfl, below_then (below_then (below_then (below_then (below_then hb1 hb2) hb3) hb4) hb5) hb6⟩

set_option maxRecDepth 100000 in
theorem lifted (os : Os) (started : os.Started) (H : Type) (enc : TypeId × Value → H) :
    ReturnsInHanded {} Try.checked os 3 .any (Rows.packBackSpec.pre6 enc Try.prog Try.f3 Rows.packBackRow.domain false) (Rows.packBackSpec.post enc Try.prog Try.f3 false true false false) := by
  refine returnsInHanded_of_change (C := Try.checked) Try.ownNone started (by kernel_rfl) Try.func3
    (ChangeSpec.witness6 (enc := enc) (C := Try.checked) false ⟨#[], #[.string ByteArray.empty, .string ByteArray.empty], []⟩ 8 (by kernel_rfl) (by kernel_rfl) (by kernel_rfl) (by kernel_rfl)) ?_
  intro W base args ds gs before hval0 hW hcnd _
  have hval : ∀ (j : Nat) t v, Try.f3.params[j]? = some t → args[j]? = some v → Value.okWide Try.prog W .any base t v := hval0
  have hW' := hW
  obtain ⟨p, q, hA0, hV, rfl, hfz, hnd⟩ := hW
  have hA : DataW.TrodAll enc Try.prog W 0 (fun _ => true) true Try.f3.params.toList args.toList ds p := hA0
  rw [Try.params3] at hA hval
  obtain ⟨v0, vs0, d0, ds0, p0, q0, hargs, rfl, rfl, h0, r0⟩ := trodAll_cons hA
  obtain ⟨v1, vs1, d1, ds1, p1, q1, rfl, rfl, rfl, h1, r1⟩ := trodAll_cons r0
  obtain ⟨rfl, rfl, rfl⟩ := trodAll_nil r1
  obtain rfl : args = #[v0, v1] := by cases args; simp_all
  obtain ⟨rfl, rfl⟩ := trodVars_none hV
  obtain ⟨a0, rfl, rfl, rfl, _⟩ := open_string Try.underlying9 (hval 0 9 v0 rfl rfl) h0
  obtain ⟨a1, rfl, rfl, rfl, _⟩ := open_string Try.underlying9 (hval 1 9 v1 rfl rfl) h1
  refine (walk a0 a1 W).mono fun e W' ⟨he, hg⟩ => ?_
  subst he
  exact ⟨_, rfl, law_post Try.laidOut (by kernel_rfl) rfl (by kernel_rfl) Try.underlying4 rfl rfl rfl hW' hg⟩

theorem proved : Rows.PackBackSaid :=
  OpenClaim.holds_of_wide 3 Try.f3 rfl rfl rfl rfl rfl rfl rfl ⟨rfl, rfl, rfl, rfl, rfl⟩ rfl rfl rfl rfl rfl (by kernel_rfl) Try.func3 (by kernel_rfl)
    (of_decide_eq_true (by kernel_rfl)) (by unfold Func.isWrapper; first | (rw [if_pos (by decide +kernel)]; kernel_rfl) | (rw [if_neg (by decide +kernel)]; exact ⟨rfl, rfl⟩))
    (fun os started H enc _ => lifted os started H enc)
#print axioms proved
end Go.Proofs.Ytoejlkcianmfaab.packBack
