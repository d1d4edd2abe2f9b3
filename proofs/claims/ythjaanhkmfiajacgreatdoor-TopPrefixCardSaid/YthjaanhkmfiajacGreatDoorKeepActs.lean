/- The statements' own Acts: actions of raw numbers. Conditions: the numbers are ints; at most three hundred actions are asked for. -/
import Derived.Test.YthjaanhkmfiajacGreatDoorRaws
import Derived.Test.YthjaanhkmfiajacGreatDoorEngRun
namespace Go.Proofs.YthjaanhkmfiajacGreatDoor
open Go.RowKit

/-- what is told of an action -/
structure ActGood (a : EM.Act) : Prop where
  ok : ActOk a
  data : a.data.size ≤ 48
  keep : 0 ≤ a.keep
theorem infoAct : (Tryz.prog.info? 36).map (fun i => (i.zero, i.size, i.bytes)) = some (some (.agg #[.int .i64 0, .int .i64 0, .string ⟨#[]⟩, .int .i64 0]), 4, 40) := by kernel_rfl
abbrev OwnActs (B : Nat) (v : Value) (L : List EM.Act) (W0 w : World) : Prop := OwnR actC 4 B 36 v L W0 w
theorem good_of {k b p : Int} {d : ByteArray} (hk : 0 ≤ k ∧ k ≤ 9) (hb : 0 ≤ b ∧ b < 8) (hd : d.size ≤ 48) (hp : 0 ≤ p ∧ p < 80) : ActGood ⟨k, b, d, p⟩ :=
  ⟨⟨⟨by show (-9223372036854775808 : Int) ≤ k; omega, by show k ≤ (9223372036854775807 : Int); omega⟩, ⟨by show (-9223372036854775808 : Int) ≤ b; omega, by show b ≤ (9223372036854775807 : Int); omega⟩, ⟨by show (-9223372036854775808 : Int) ≤ p; omega, by show p ≤ (9223372036854775807 : Int); omega⟩⟩, hd, hp.1⟩
abbrev set4 (w : World) (N : Nat) (a b c d : Value) : World := (((w.setCell ⟨N, 0, none⟩ a).setCell ⟨N, 1, none⟩ b).setCell ⟨N, 2, none⟩ c).setCell ⟨N, 3, none⟩ d
theorem set4_far {w : World} {N G j : Nat} {r : Option Value} (hne : N ≠ G) (h : w.cell? ⟨G, j, none⟩ = r) (a b c d : Value) : (set4 w N a b c d).cell? ⟨G, j, none⟩ = r := by
  unfold set4
  rw [World.cell?_setCell_far _ _ _ _ hne, World.cell?_setCell_far _ _ _ _ hne, World.cell?_setCell_far _ _ _ _ hne, World.cell?_setCell_far _ _ _ _ hne]
  exact h
/-- block G is a box of an action's four cells -/
def ActBox (w : World) (G : Nat) (a b c d : Value) : Prop := w.heap[G]? = some (.cells #[a, b, c, d] 36 (0, 0))
theorem ActBox.lt {w : World} {G : Nat} {a b c d : Value} (h : ActBox w G a b c d) : G < w.heap.size := (Array.getElem?_eq_some_iff.1 h).1
theorem ActBox.at {w : World} {G : Nat} {a b c d : Value} (h : ActBox w G a b c d) : w.cell? ⟨G, 0, none⟩ = some a ∧ w.cell? ⟨G, 1, none⟩ = some b ∧ w.cell? ⟨G, 2, none⟩ = some c ∧ w.cell? ⟨G, 3, none⟩ = some d ∧
    w.frozen? ⟨G, 0, none⟩ = false ∧ w.frozen? ⟨G, 1, none⟩ = false ∧ w.frozen? ⟨G, 2, none⟩ = false ∧ w.frozen? ⟨G, 3, none⟩ = false := by
  unfold ActBox at h
  refine ⟨?_, ?_, ?_, ?_, ?_, ?_, ?_, ?_⟩ <;> simp [World.cell?, World.frozen?, h]
theorem ActBox.keep {w w' : World} {G : Nat} {a b c d : Value} (h : ActBox w G a b c d) (hb : Below w.heap.size w w') : ActBox w' G a b c d := (hb.block G h.lt).trans h
theorem ActBox.new (w : World) (a b c d : Value) : ActBox (w.alloc (.cells #[a, b, c, d] 36)) w.heap.size a b c d := by
  show (w.heap.push _)[w.heap.size]? = _
  simp
theorem ActBox.set {w : World} {G : Nat} {a b c d : Value} (h : ActBox w G a b c d) (a' b' c' d' : Value) : ActBox (set4 w G a' b' c' d') G a' b' c' d' := by
  unfold ActBox at h ⊢
  simp only [World.setCell, Array.getElem?_modify, if_true, h, Option.map_some]
  simp
theorem act0_of {w w2 : World} (hb : Below (w.alloc (.cells #[.int .i64 0, .int .i64 0, .string ⟨#[]⟩, .int .i64 0] 36)).drew.heap.size (w.alloc (.cells #[.int .i64 0, .int .i64 0, .string ⟨#[]⟩, .int .i64 0] 36)).drew w2) : ActBox w2 w.heap.size (.int .i64 0) (.int .i64 0) (.string ⟨#[]⟩) (.int .i64 0) :=
  ActBox.keep (w := (w.alloc (.cells #[.int .i64 0, .int .i64 0, .string ⟨#[]⟩, .int .i64 0] 36)).drew) (ActBox.new w _ _ _ _) hb

/-- what Acts returns -/
def ActsRet (m : Nat) (w : World) (e : Ending) (w' : World) : Prop := ∃ v A, e = .returned v ∧ OwnActs w.heap.size v A w w' ∧ A.length ≤ m ∧ ∀ a ∈ A, ActGood a

set_option maxRecDepth 100000 in
set_option maxHeartbeats 4000000 in
theorem Acts_any (v : Value) (L : List Rw) (m : Nat) (hm : m ≤ 300) (w : World) (h : RawsAt w v L) (hok : ∀ r ∈ L, RwOk r) :
    Calls Tryz.prog 12 #[v, .int .i64 (m : Int)] w (ActsRet m w) := by
  obtain ⟨i0, hi, hz0, hz1, hz2⟩ := info_parts infoAct
  have h' := h
  obtain ⟨p, cap, rfl, hlc, hcc, hcell⟩ := h'
  have HC := Lib.hid hcell
  have HOK := Lib.hid hok
  clear h hcell hok
  go_enter Tryz.func12, Tryz.ntmps12
  go_wp2
  go_loopw [5, 6] (fun a i wr => ∃ (k : Nat) (A : List EM.Act), k ≤ L.length ∧ k ≤ m ∧ i = .int .i64 (k : Int) ∧ A.length = k ∧ OwnActs w.heap.size a A w wr ∧ Hid (∀ x ∈ A, ActGood x)) (fun _ i _ => m - (intOf i).toNat)
  case atStart => exact ⟨0, [], Nat.zero_le _, Nat.zero_le _, rfl, rfl, OwnR.nil (Below.refl _ _) (Nat.le_refl _), Lib.hid (by simp)⟩
  case round =>
    obtain ⟨k, A, hkL, hkm, rfl, hAk, hown, HG⟩ := hrel
    obtain ⟨pa, ca, rfl⟩ := hown.isSlice
    have HOWN := Lib.hid hown
    have HAK := Lib.hid hAk
    have hbr := hown.below
    clear hown hAk
    by_cases hlt : k < L.length ∧ k < m
    · obtain ⟨hlt1, hlt2⟩ := hlt
      obtain ⟨r, hr⟩ : ∃ r, L[k]? = some r := ⟨_, List.getElem?_eq_getElem hlt1⟩
      obtain ⟨b, off, rfl, hbl, c0, c1, c2, c3⟩ := HC.out k r hr
      replace c0 := (hbr.cell (p := ⟨b, _, none⟩) hbl).trans c0
      replace c1 := (hbr.cell (p := ⟨b, _, none⟩) hbl).trans c1
      replace c2 := (hbr.cell (p := ⟨b, _, none⟩) hbl).trans c2
      replace c3 := (hbr.cell (p := ⟨b, _, none⟩) hbl).trans c3
      have hrok := HOK.out r (List.mem_of_getElem? hr)
      have HRO := Lib.hid hrok
      have HRK := Lib.hid (show -9223372036854775808 ≤ r.kind ∧ r.kind ≤ 9223372036854775807 from hrok.kind)
      have HRA := Lib.hid (show -9223372036854775808 ≤ r.a ∧ r.a ≤ 9223372036854775807 from hrok.a)
      have hi0 : (0 : Int) ≤ (k : Int) := by omega
      have hi1 : (k : Int) < (L.length : Int) := by omega
      have t1 : decide (k < L.length) = true := by simpa using hlt1
      have t2 : decide (k < m) = true := by simpa using hlt2
      clear hr hrok
      go_wp2
      obtain ⟨kc, hkc⟩ : ∃ kc : Nat, pick r.c 8 = (kc : Int) := ⟨(pick r.c 8).toNat, by have := pick_bd r.c 8 (by omega); omega⟩
      have hkc8 : kc < 8 := by have := pick_bd r.c 8 (by omega); omega
      have HKC := Lib.hid hkc
      obtain ⟨R, hR⟩ : ∃ R, R = wr.heap.size := ⟨_, rfl⟩
      obtain ⟨W1, hW1⟩ : ∃ W, W = wr.alloc (.cells #[.int .i64 r.kind, .int .i64 r.a, .int .i64 r.b, .int .i64 r.c] 60) := ⟨_, rfl⟩
      have hbW1 : Below wr.heap.size wr W1 := by rw [hW1]; exact below_alloc (Below.refl _ _) _
      have b0 : W1.cell? ⟨R, 0, none⟩ = some (.int .i64 r.kind) := by rw [hW1, hR]; simp
      have b1 : W1.cell? ⟨R, 1, none⟩ = some (.int .i64 r.a) := by rw [hW1, hR]; simp
      have b2 : W1.cell? ⟨R, 2, none⟩ = some (.int .i64 r.b) := by rw [hW1, hR]; simp
      have b3 : W1.cell? ⟨R, 3, none⟩ = some (.int .i64 r.c) := by rw [hW1, hR]; simp
      have hRW : R < W1.heap.size := by rw [hW1, hR]; simp
      have m1 : ¬ W1.heap.size = R := by omega
      have m2 : ¬ R = W1.heap.size := by omega
      have hRr : wr.heap.size ≤ R := by omega
      have hRr2 : R < W1.heap.size := hRW
      rw [← hR, ← hW1]
      have HB1 := Lib.hid hbW1
      clear hkc hW1 hR hbW1 c0 c1 c2 c3
      go_region_held3 (fun w' => w'.cell? ⟨R, 0, none⟩ = some (.int .i64 r.kind) ∧ w'.cell? ⟨R, 1, none⟩ = some (.int .i64 r.a) ∧ w'.cell? ⟨R, 2, none⟩ = some (.int .i64 r.b) ∧ w'.cell? ⟨R, 3, none⟩ = some (.int .i64 r.c))
        (first | with_reducible exact ⟨q0, q1, q2, q3⟩ | with_reducible exact ⟨t0 _, t1 _, t2 _, t3 _⟩ | with_reducible exact ⟨s0 _ _ _ _, s1 _ _ _ _, s2 _ _ _ _, s3 _ _ _ _⟩ | go_keep)
        (first
          | (go_at_call 13; refine (picked_any r.c 8 HRO.out.c (by omega) _).mono ?_; rw [HKC.out]; rintro e w3 ⟨rfl, rfl⟩)
          | (go_at_call 28; refine (Data_any r HRO.out _).mono ?_; rintro e w4 ⟨d, rfl, hd, hb4'⟩; have hb4 : Below W1.heap.size W1 w4 := (by first | exact below_then (Below.refl _ _).drew hb4' | exact below_then (below_alloc (Below.refl _ _) _).drew hb4'); have hR4 := Nat.lt_of_lt_of_le hRW hb4.size; have q0 := (hb4.cell (p := ⟨R, 0, none⟩) hRW).trans b0; have t0 := alloc_far hR4 q0; have s0 := set4_far (N := W1.heap.size) m1 q0; have q1 := (hb4.cell (p := ⟨R, 1, none⟩) hRW).trans b1; have t1 := alloc_far hR4 q1; have s1 := set4_far (N := W1.heap.size) m1 q1; have q2 := (hb4.cell (p := ⟨R, 2, none⟩) hRW).trans b2; have t2 := alloc_far hR4 q2; have s2 := set4_far (N := W1.heap.size) m1 q2; have q3 := (hb4.cell (p := ⟨R, 3, none⟩) hRW).trans b3; have t3 := alloc_far hR4 q3; have s3 := set4_far (N := W1.heap.size) m1 q3; (try ((with_reducible have hz := act0_of (w := W1) hb4'); (obtain ⟨z0, z1, z2, z3, y0, y1, y2, y3⟩ := hz.at))); have HB4 := Lib.hid hb4; clear hb4 hb4'))
      all_goals (first
      | (
        have hbx := hz.set (.int .i64 2) (.int .i64 (kc : Int)) (.string d) (.int .i64 0)
        have r0 := s0 (.int .i64 2) (.int .i64 (kc : Int)) (.string d) (.int .i64 0)
        have r1 := s1 (.int .i64 2) (.int .i64 (kc : Int)) (.string d) (.int .i64 0)
        have hb6 : Below wr.heap.size wr (set4 w4 W1.heap.size (.int .i64 2) (.int .i64 (kc : Int)) (.string d) (.int .i64 0)) := by
          have hge := HB1.out.size
          have h4 := HB1.out.trans (HB4.out.mono hge)
          exact (((h4.setCell (p := ⟨W1.heap.size, 0, none⟩) hge _).setCell (p := ⟨W1.heap.size, 1, none⟩) hge _).setCell (p := ⟨W1.heap.size, 2, none⟩) hge _).setCell (p := ⟨W1.heap.size, 3, none⟩) hge _
        have hG8 : wr.heap.size ≤ W1.heap.size := HB1.out.size
        clear HB1 HB4 hz z0 z1 z2 z3 y0 y1 y2 y3 b0 b1 b2 b3 s0 s1 s2 s3 t0 t1 t2 t3 q0 q1 q2 q3 hR4 hRW hRr2
        change Exit.then _ _ _ _ (set4 w4 W1.heap.size (.int .i64 2) (.int .i64 (kc : Int)) (.string d) (.int .i64 0))
        generalize (set4 w4 W1.heap.size (.int .i64 2) (.int .i64 (kc : Int)) (.string d) (.int .i64 0)) = W6 at hbx r0 r1 hb6 ⊢
        generalize W1.heap.size = G8 at *)
      | (
        have hbx := ActBox.new w4 (.int .i64 2) (.int .i64 (kc : Int)) (.string d) (.int .i64 0)
        have r0 := t0 (.cells #[.int .i64 2, .int .i64 (kc : Int), .string d, .int .i64 0] 36)
        have r1 := t1 (.cells #[.int .i64 2, .int .i64 (kc : Int), .string d, .int .i64 0] 36)
        have hge := HB1.out.size
        have hG8 : wr.heap.size ≤ w4.heap.size := Nat.le_trans hge HB4.out.size
        have hb6 : Below wr.heap.size wr (w4.alloc (.cells #[.int .i64 2, .int .i64 (kc : Int), .string d, .int .i64 0] 36)) := (HB1.out.trans (HB4.out.mono hge)).alloc hG8 _
        have m1 : ¬ w4.heap.size = R := by omega
        have m2 : ¬ R = w4.heap.size := by omega
        clear HB1 HB4 b0 b1 b2 b3 s0 s1 s2 s3 t0 t1 t2 t3 q0 q1 q2 q3 hR4 hRW hRr2 hge
        generalize (w4.alloc (.cells #[.int .i64 2, .int .i64 (kc : Int), .string d, .int .i64 0] 36)) = W6 at hbx r0 r1 hb6 ⊢
        generalize w4.heap.size = G8 at *))
      all_goals
        obtain ⟨e0, e1, e2, e3, f0, f1, f2, f3⟩ := hbx.at
        obtain ⟨kk, hkk, hk24⟩ := pick_nat r.kind 24 (by omega)
        obtain ⟨k80, hk80, h80⟩ := pick_nat r.a 80 (by omega)
        obtain ⟨k3, hk3, h3⟩ := pick_nat r.a 3 (by omega)
        have HKK := Lib.hid hkk
        have HK80 := Lib.hid hk80
        have HK3 := Lib.hid hk3
        have HB6 := Lib.hid hb6
        clear hkk hk80 hk3 hb6
        have hcases : kk < 5 ∨ (¬ kk < 5 ∧ kk < 9) ∨ kk = 9 ∨ kk = 10 ∨ kk = 11 ∨ kk = 12 ∨ kk = 13 ∨ (kk = 14 ∧ k3 = 0) ∨ (kk = 14 ∧ ¬ k3 = 0) ∨ kk = 15 ∨ 15 < kk := by omega
        rcases hcases with hc | ⟨hc, hc'⟩ | rfl | rfl | rfl | rfl | rfl | ⟨rfl, rfl⟩ | ⟨rfl, hc⟩ | rfl | hc
      all_goals
        first
          | (have u5 : decide ((kk : Int) < 5) = true := by simp; omega)
          | (have u5 : decide ((kk : Int) < 5) = false := by simp; omega)
          | skip
        first
          | (have u9 : decide ((kk : Int) < 9) = true := by simp; omega)
          | (have u9 : decide ((kk : Int) < 9) = false := by simp; omega)
          | skip
        first
          | (have u12 : decide ((kk : Int) < 12) = false := by simp; omega)
          | skip
        first
          | (have v9 : ((kk : Int) == 9) = false := by simp; omega)
          | skip
        first
          | (have v12 : ((kk : Int) == 12) = false := by simp; omega)
          | skip
        first
          | (have v13 : ((kk : Int) == 13) = false := by simp; omega)
          | skip
        first
          | (have v14 : ((kk : Int) == 14) = false := by simp; omega)
          | skip
        first
          | (have v15 : ((kk : Int) == 15) = false := by simp; omega)
          | skip
        first
          | (have v0 : ((k3 : Int) == 0) = false := by simp; omega)
          | skip
        go_wp2_with (first
          | (go_at_call 13; go_loud ((first | (with_reducible refine (picked_any r.kind 24 HRK.out (by omega) _).mono ?_; rw [HKK.out]) | (with_reducible refine (picked_any r.a 80 HRA.out (by omega) _).mono ?_; rw [HK80.out]) | (with_reducible refine (picked_any r.a 3 HRA.out (by omega) _).mono ?_; rw [HK3.out])); rintro e w3 ⟨rfl, rfl⟩))
          | (at_builtin; refine wpList_own_r actE rfl (.tmp 76) (.tmp 78) 23 rfl w.heap.size 36 i0 _ 40 Tryz.underlying23 hi hz0 rfl hz1 hz2 _ A rfl w _ ⟨_, _, _, _⟩ _ rfl (HOWN.out.past (by repeat (first | exact HB6.out | refine Below.setCell (p := ⟨G8, _, none⟩) ?_ hG8 _))) _ rfl (by simp) (by have := HAK.out; omega) (by have := HAK.out; omega) ?_; intro v5 w5 ho5 hg5))
        go_roundw
        case rel =>
          refine ⟨k + 1, _, by omega, by omega, by go_num, ?_, ho5, Lib.hid ?_⟩
          · have := HAK.out
            simp only [List.length_append, List.length_cons, List.length_nil]
            omega
          · intro x hx
            rcases List.mem_append.1 hx with hx | hx
            · exact HG.out x hx
            · rw [List.mem_singleton.1 hx]
              have hkI : (kc : Int) < 8 := by omega
              refine good_of ⟨by omega, by omega⟩ ⟨by first | omega | exact Int.natCast_nonneg _, by first | omega | exact hkI⟩ ?_ ⟨by first | omega | exact Int.natCast_nonneg _, by first | omega | exact h80⟩
              first | exact hd.1.1 | decide
        case measure => simp [intOf]; omega
    · by_cases h1 : k < L.length
      · have hkm' : k = m := by omega
        subst hkm'
        have hi0 : (0 : Int) ≤ (k : Int) := by omega
        have hi1 : (k : Int) < (L.length : Int) := by omega
        have t1 : decide (k < L.length) = true := by simpa using h1
        go_wp2
        exact bodyPost_ret (v := .slice pa A.length ca) (by simp [results, Tryz.results12, go_sem]) rfl ⟨_, A, rfl, HOWN.out, by have := HAK.out; omega, HG.out⟩
      · have hkL' : k = L.length := by omega
        subst hkL'
        go_wp2
        exact bodyPost_ret (v := .slice pa A.length ca) (by simp [results, Tryz.results12, go_sem]) rfl ⟨_, A, rfl, HOWN.out, by have := HAK.out; omega, HG.out⟩
end Go.Proofs.YthjaanhkmfiajacGreatDoor
