/- WritesBad, walked. No condition but that the numbers are ints. -/
import Derived.Test.YtajjhjabehiikabDoorKeepVol2
import Derived.Test.YtajjhjabehiikabDoorKeepReads
import Derived.Test.YtajjhjabehiikabDoorBadMath
import Derived.Test.YtajjhjabehiikabDoorRegionInv
import Derived.Deep.RegionHeld3
namespace Go.Proofs.YtajjhjabehiikabDoor.writesBad
open Go Go.RowKit

theorem rep49 (w : World) : Calls Tryd.prog 22 #[.string ⟨#[120]⟩, .int .i64 49] w fun e w' => ∃ d : ByteArray, d.size = 49 ∧ e = .returned (.string d) ∧ Below w.heap.size w w' := by
  refine (Tryd.strings_Repeat ⟨#[120]⟩ 49 w (by omega) (by show 1 * 49 ≤ _; omega)).mono ?_
  rintro e w' ⟨rfl, hb⟩
  exact ⟨_, by rw [rep_size]; rfl, rfl, hb⟩
theorem wpOp_at {P : Program} {ops : Array Oper} {Q : Exit → Act → World → Prop} {i : Nat} {o : Oper} {K : Act → World → Prop} {a : Act} {w : World} (ho : ops[i]? = some o) (hg : o.guard = none) (h : o.wp P a w K Q) : wpOp P ops Q i K a w := by
  unfold wpOp
  rw [ho]
  simp only
  rw [if_pos (by simp [Region.wanted, hg])]
  exact Or.inl h

def BadRet (i : Nat) (w : World) (e : Ending) (w' : World) : Prop :=
  ∃ p c q d, e = .returned (.tuple #[.agg #[.slice p 0 c, .slice q 0 d], .int .i64 (oddErr i)]) ∧ Below w.heap.size w w'
theorem Apply_odd {V : Vol} (hV : V16 V) {k : Nat} (hk : k < 16) {d : ByteArray} (hd : d.size = 49) (i : Nat) (v u : Value) (w : World) (h : VolAt w v V) (hu : WritesAt w u (odd k d i)) :
    Calls Tryd.prog 17 #[v, u] w (BadRet i w) := by
  have hf : wFault (odd k d i) ((16 : Nat) : Int) = oddErr i := odd_fault hk hd i
  have hr := apply_bad hV.ok (W := odd k d i) (by rw [hV.n, hf]; exact oddErr_ne i)
  rw [hV.n, hf] at hr
  refine (VApply_any v u V _ w h hV.ok.wide hu).mono ?_
  rw [hr]
  rintro e w' ⟨vi, vb, rfl, hown⟩
  obtain ⟨pi, ci, rfl⟩ := hown.1.isSlice
  obtain ⟨pb, cb, rfl⟩ := hown.2.1.isSlice
  exact ⟨_, _, _, _, rfl, hown.below⟩
theorem Read_none {V : Vol} (hV : V16 V) (k : Nat) (hk : k < 16) (v : Value) (w : World) (h : VolAt w v V) :
    Calls Tryd.prog 23 #[v, .int .i64 (16 + (k : Int))] w fun e w' => e = .returned (.tuple #[.string ⟨#[]⟩, .int .i64 6]) ∧ Below w.heap.size w w' := by
  have := VRead_any v V (16 + (k : Int)) (by omega) w h hV.ok.wide
  rw [readOf_none hV.ok (by rw [hV.n]; omega)] at this
  exact this
theorem Read_zero (w : World) :
    Calls Tryd.prog 23 #[.agg #[.slice none 0 0, .slice none 0 0], .int .i64 0] w fun e w' => e = .returned (.tuple #[.string ⟨#[]⟩, .int .i64 7]) ∧ Below w.heap.size w w' := by
  have h : VolAt w (.agg #[.slice none 0 0, .slice none 0 0]) ⟨[], []⟩ := (OwnVol.none (Below.refl w.heap.size w) (Nat.le_refl _)).vol (by simp) (by simp)
  have := VRead_any _ ⟨[], []⟩ 0 (by omega) w h (fun z hz => by simp at hz)
  rw [readOf_bad (by rfl)] at this
  exact this
/-- the frame with what the region's operations have given -/
def T (v : Value) (a1 a2 : Int) (G k : Nat) (ag : Value) (vals : Nat → Value) : Array Value :=
  #[v, .int .i64 a1, .int .i64 a2, undef, undef, undef, .bool false, .pointer (some ⟨G, 0, none⟩), .int .i64 (k : Int), vals 19, undef, undef, undef, undef, undef, undef, undef, undef, v, ag, .int .i64 a2, .int .i64 (k : Int), vals 0, vals 1, vals 2, vals 3, vals 4, vals 5, vals 6, vals 7, vals 8, vals 9, vals 10, vals 11, vals 12, vals 13, vals 14, vals 15, vals 16, vals 17, vals 18, undef, undef, undef, undef, undef, undef, undef, undef, undef, undef, undef, undef, undef, undef, undef, undef, undef, undef, undef, undef, undef, undef, undef, undef, undef, undef, undef, undef, undef, undef, undef, undef, undef, undef, undef, undef, undef, undef, undef, undef, undef, undef, undef, undef, undef, undef]
/-- the region's state -/
def St (v : Value) (a1 a2 : Int) (G k : Nat) (ag : Value) (W : World) (listed : Array Bool) (a : Act) (w : World) : Prop :=
  ∃ vals, a = ⟨T v a1 a2 G k ag vals, []⟩ ∧ Below W.heap.size W w ∧ SpecAll k listed vals w
theorem St.next {v : Value} {a1 a2 : Int} {G k : Nat} {ag : Value} {W w w' : World} {listed : Array Bool} {vals : Nat → Value} {i : Nat} {x : Value} {a : Act}
    (hb : Below W.heap.size W w) (hS : SpecAll k listed vals w) (ha : a = ⟨T v a1 a2 G k ag (updV vals i x), []⟩) (hb' : Below w.heap.size w w') (hn : Spec k i x w') : St v a1 a2 G k ag W (listed.setIfInBounds i true) a w' :=
  ⟨_, ha, below_then hb hb', hS.step hb' hn⟩

set_option maxRecDepth 100000 in
set_option maxHeartbeats 1000000 in
theorem walk (v : Value) (L : List Rw) (a1 a2 : Int) (w : World) (h : RawsAt w v L) (hok : ∀ r ∈ L, RwOk r) (h1 : -9223372036854775808 ≤ a1 ∧ a1 ≤ 9223372036854775807) (h2 : -9223372036854775808 ≤ a2 ∧ a2 ≤ 9223372036854775807) :
    Calls Tryd.prog 7 #[v, .int .i64 a1, .int .i64 a2] w fun e w' => e = .returned (.bool true) ∧ Below w.heap.size w w' := by
  have HV := Lib.hid (Volume_at v L w h hok)
  have HA1 := Lib.hid h1
  have HA2 := Lib.hid h2
  obtain ⟨k, hk, hk16⟩ := pick_nat a2 16 (by omega)
  have HK := Lib.hid hk
  clear h hok h1 h2 hk
  go_enter Tryd.func7, Tryd.ntmps7
  go_upto_region 2 with (go_at_call 8; refine HV.out.mono ?_; rintro e w1 ⟨p, c, pz, cz, V, rfl, hat, hV, hb1⟩)
  obtain ⟨G, hG⟩ : ∃ G, w1.heap.size = G := ⟨_, rfl⟩
  obtain ⟨W, hW⟩ : ∃ W, W = w1.alloc (.cells #[.slice p V.items.length c, .slice pz V.blocks.length cz] 26) := ⟨_, rfl⟩
  have g0 : W.cell? ⟨G, 0, none⟩ = some (.slice p V.items.length c) := by subst hW; subst hG; simp
  have g1 : W.cell? ⟨G, 1, none⟩ = some (.slice pz V.blocks.length cz) := by subst hW; subst hG; simp
  have hbW : Below w.heap.size w W := by subst hW; exact below_alloc hb1 _
  have hGW : G < W.heap.size := by subst hW; subst hG; simp
  have hat1 : VolAt W (.agg #[.slice p V.items.length c, .slice pz V.blocks.length cz]) V := by subst hW; exact hat.keep (below_alloc (Below.refl _ _) _)
  rw [hG, ← hW]
  have HAT := Lib.hid hat1
  have HV16 := Lib.hid hV
  clear hW hG hat hat1 hb1 HV hV
  go_wp2_with (go_at_call 9; refine (picked_any _ _ HA2.out (by omega) _).mono ?_; rw [HK.out]; rintro e w2 ⟨rfl, rfl⟩)
  obtain ⟨i0, hi, hz0, hz1, hz2⟩ := info_parts infoWrite
  obtain ⟨row, hrow⟩ : ∃ row, row = (List.flatten (List.replicate 13 [Value.int .i64 0, .string ⟨#[]⟩])).toArray := ⟨_, rfl⟩
  have hmk : ∀ (w : World), (Instr.makeSlice 41 (.int .i64 13) (.int .i64 13)).run Tryd.prog w = .ok (.slice (some ⟨w.heap.size, 0, none⟩) 13 13) (w.alloc (.cells row 48)) := by
    intro w
    rw [run_make w _ _ i0 _ Tryd.underlying41 hi hz0 .i64 .i64 13 13 (by omega) (Int.le_refl _) (by rw [hz2]; omega) (by omega), hz1, hrow, ← made13]
    rfl
  have HROW := Lib.hid hrow
  have hwa := IntWalk.i64_in (16 + (k : Int)) (by omega)
  have hwb := IntWalk.i64_in (-1 - (k : Int)) (by omega)
  obtain ⟨ag, hag⟩ : ∃ ag, ag = Value.agg #[.slice p V.items.length c, .slice pz V.blocks.length cz] := ⟨_, rfl⟩
  rw [← hag]
  clear hag hrow hi hz0 hz1 hz2
  refine wp_region_any (by kernel_rfl) ?_
  refine wpAny_inv (St v a1 a2 G k ag W) ?_ ?_ _ _ _ _ (by simp) (Nat.le_trans List.count_le_length (by simp)) ⟨fun _ => undef, rfl, (Below.refl _ _).drew, fun j hj => by
    rw [Array.getD_eq_getD_getElem?, Array.getElem?_replicate] at hj
    split at hj <;> simp at hj⟩
  · rintro listed a w3 i hs hi ⟨vals, rfl, hb, hS⟩
    obtain ⟨hi20, _, hdep⟩ := ready_spec hi
    have hi20' : i < 20 := hi20
    have hcase : i = 0 ∨ i = 1 ∨ i = 2 ∨ i = 3 ∨ i = 4 ∨ i = 5 ∨ i = 6 ∨ i = 7 ∨ i = 8 ∨ i = 9 ∨ i = 10 ∨ i = 11 ∨ i = 12 ∨ i = 13 ∨ i = 14 ∨ i = 15 ∨ i = 16 ∨ i = 17 ∨ i = 18 ∨ i = 19 := by omega
    clear hi hi20 hi20' hs
    rcases hcase with rfl | rfl | rfl | rfl | rfl | rfl | rfl | rfl | rfl | rfl | rfl | rfl | rfl | rfl | rfl | rfl | rfl | rfl | rfl | rfl
    · refine wpOp_at rfl rfl ?_
      unfold T
      go_simp
      refine St.next (x := (.slice (some ⟨w3.heap.size, 0, none⟩) 13 13)) hb hS (by simp [T, updV]) (below_alloc (Below.refl _ _) _) (And.intro ⟨_, rfl⟩ (by rw [HROW.out]; exact writes_13 w3 _))
    · refine wpOp_at rfl rfl ?_
      unfold T
      go_simp
      refine St.next (x := .int .i64 (k : Int)) hb hS (by simp [T, updV]) (Below.refl _ _) rfl
    · have e1 : vals 1 = .int .i64 (k : Int) := hS 1 (hdep _ rfl ⟨1, .data⟩ (by simp) rfl)
      refine wpOp_at rfl rfl ?_
      unfold T
      go_simp
      refine St.next (x := .int .i64 (16 + (k : Int))) hb hS (by simp [T, updV, e1]) (Below.refl _ _) rfl
    · have e2 : vals 2 = .int .i64 (16 + (k : Int)) := hS 2 (hdep _ rfl ⟨2, .data⟩ (by simp) rfl)
      refine wpOp_at rfl rfl ?_
      unfold T
      go_simp
      refine St.next (x := .agg #[.int .i64 (16 + (k : Int)), .string ⟨#[]⟩]) hb hS (by simp [T, updV, e2]) (Below.refl _ _) rfl
    · have e3 : vals 3 = .agg #[.int .i64 (16 + (k : Int)), .string ⟨#[]⟩] := hS 3 (hdep _ rfl ⟨3, .data⟩ (by simp) rfl)
      refine wpOp_at rfl rfl ?_
      unfold T
      go_simp
      refine St.next (x := (.slice (some ⟨w3.heap.size, 0, none⟩) 1 1)) hb hS (by simp [T, updV, e3]) (below_alloc (Below.refl _ _) _) (And.intro ⟨_, rfl⟩ (writes_one w3 _ ⟨16 + (k : Int), ⟨#[]⟩⟩))
    · refine wpOp_at rfl rfl ?_
      unfold T
      go_simp
      refine St.next (x := .int .i64 (k : Int)) hb hS (by simp [T, updV]) (Below.refl _ _) rfl
    · have e5 : vals 5 = .int .i64 (k : Int) := hS 5 (hdep _ rfl ⟨5, .data⟩ (by simp) rfl)
      refine wpOp_at rfl rfl ?_
      unfold T
      go_simp
      refine St.next (x := .int .i64 (-1 - (k : Int))) hb hS (by simp [T, updV, e5]) (Below.refl _ _) rfl
    · have e6 : vals 6 = .int .i64 (-1 - (k : Int)) := hS 6 (hdep _ rfl ⟨6, .data⟩ (by simp) rfl)
      refine wpOp_at rfl rfl ?_
      unfold T
      go_simp
      refine St.next (x := .agg #[.int .i64 (-1 - (k : Int)), .string ⟨#[]⟩]) hb hS (by simp [T, updV, e6]) (Below.refl _ _) rfl
    · have e7 : vals 7 = .agg #[.int .i64 (-1 - (k : Int)), .string ⟨#[]⟩] := hS 7 (hdep _ rfl ⟨7, .data⟩ (by simp) rfl)
      refine wpOp_at rfl rfl ?_
      unfold T
      go_simp
      refine St.next (x := (.slice (some ⟨w3.heap.size, 0, none⟩) 1 1)) hb hS (by simp [T, updV, e7]) (below_alloc (Below.refl _ _) _) (And.intro ⟨_, rfl⟩ (writes_one w3 _ ⟨-1 - (k : Int), ⟨#[]⟩⟩))
    · refine wpOp_at rfl rfl ?_
      unfold T
      go_simp
      refine St.next (x := .int .i64 (k : Int)) hb hS (by simp [T, updV]) (Below.refl _ _) rfl
    · have e9 : vals 9 = .int .i64 (k : Int) := hS 9 (hdep _ rfl ⟨9, .data⟩ (by simp) rfl)
      refine wpOp_at rfl rfl ?_
      unfold T
      go_simp
      refine St.next (x := .agg #[.int .i64 (k : Int), .string ⟨#[]⟩]) hb hS (by simp [T, updV, e9]) (Below.refl _ _) rfl
    · refine wpOp_at rfl rfl ?_
      unfold T
      go_simp
      refine St.next (x := .int .i64 (k : Int)) hb hS (by simp [T, updV]) (Below.refl _ _) rfl
    · have e11 : vals 11 = .int .i64 (k : Int) := hS 11 (hdep _ rfl ⟨11, .data⟩ (by simp) rfl)
      refine wpOp_at rfl rfl ?_
      unfold T
      go_simp
      refine St.next (x := .agg #[.int .i64 (k : Int), .string ⟨#[]⟩]) hb hS (by simp [T, updV, e11]) (Below.refl _ _) rfl
    · have e10 : vals 10 = .agg #[.int .i64 (k : Int), .string ⟨#[]⟩] := hS 10 (hdep _ rfl ⟨10, .data⟩ (by simp) rfl)
      have e12 : vals 12 = .agg #[.int .i64 (k : Int), .string ⟨#[]⟩] := hS 12 (hdep _ rfl ⟨12, .data⟩ (by simp) rfl)
      refine wpOp_at rfl rfl ?_
      unfold T
      go_simp
      refine St.next (x := (.slice (some ⟨w3.heap.size, 0, none⟩) 2 2)) hb hS (by simp [T, updV, e10, e12]) (below_alloc (Below.refl _ _) _) (And.intro ⟨_, rfl⟩ (writes_two w3 _ ⟨(k : Int), ⟨#[]⟩⟩ ⟨(k : Int), ⟨#[]⟩⟩))
    · refine wpOp_at rfl rfl ?_
      unfold T
      go_simp
      refine St.next (x := .int .i64 (k : Int)) hb hS (by simp [T, updV]) (Below.refl _ _) rfl
    · refine wpOp_at rfl rfl ?_
      unfold T
      go_simp
      refine (rep49 w3).mono ?_
      rintro e w4 ⟨d, hd, rfl, hb4⟩
      refine St.next (x := .string d) hb hS (by simp [T, updV]) hb4 ⟨d, hd, rfl⟩
    · have e14 : vals 14 = .int .i64 (k : Int) := hS 14 (hdep _ rfl ⟨14, .data⟩ (by simp) rfl)
      obtain ⟨d, hd, e15⟩ : ∃ d : ByteArray, d.size = 49 ∧ vals 15 = .string d := hS 15 (hdep _ rfl ⟨15, .data⟩ (by simp) rfl)
      refine wpOp_at rfl rfl ?_
      unfold T
      go_simp
      refine St.next (x := .agg #[.int .i64 (k : Int), .string d]) hb hS (by simp [T, updV, e14, e15]) (Below.refl _ _) (Exists.intro d (And.intro hd rfl))
    · obtain ⟨d, hd, e16⟩ : ∃ d : ByteArray, d.size = 49 ∧ vals 16 = .agg #[.int .i64 (k : Int), .string d] := hS 16 (hdep _ rfl ⟨16, .data⟩ (by simp) rfl)
      refine wpOp_at rfl rfl ?_
      unfold T
      go_simp
      refine St.next (x := (.slice (some ⟨w3.heap.size, 0, none⟩) 1 1)) hb hS (by simp [T, updV, e16]) (below_alloc (Below.refl _ _) _) (Exists.intro d (And.intro hd (And.intro ⟨_, rfl⟩ (writes_one w3 _ ⟨(k : Int), d⟩))))
    · obtain ⟨⟨b0, h0⟩, w0⟩ : SliceOf 13 (vals 0) ∧ WritesAt w3 (vals 0) (List.replicate 13 ⟨0, ⟨#[]⟩⟩) := hS 0 (hdep _ rfl ⟨0, .data⟩ (by simp) rfl)
      obtain ⟨⟨b1, h1⟩, w1'⟩ : SliceOf 1 (vals 4) ∧ WritesAt w3 (vals 4) [⟨16 + (k : Int), ⟨#[]⟩⟩] := hS 4 (hdep _ rfl ⟨4, .data⟩ (by simp) rfl)
      obtain ⟨⟨b2, h2⟩, w2'⟩ : SliceOf 1 (vals 8) ∧ WritesAt w3 (vals 8) [⟨-1 - (k : Int), ⟨#[]⟩⟩] := hS 8 (hdep _ rfl ⟨8, .data⟩ (by simp) rfl)
      obtain ⟨⟨b3, h3⟩, w3'⟩ : SliceOf 2 (vals 13) ∧ WritesAt w3 (vals 13) [⟨(k : Int), ⟨#[]⟩⟩, ⟨(k : Int), ⟨#[]⟩⟩] := hS 13 (hdep _ rfl ⟨13, .data⟩ (by simp) rfl)
      obtain ⟨d, hd, ⟨b4, h4⟩, w4'⟩ : ∃ d : ByteArray, d.size = 49 ∧ SliceOf 1 (vals 17) ∧ WritesAt w3 (vals 17) [⟨(k : Int), d⟩] := hS 17 (hdep _ rfl ⟨17, .data⟩ (by simp) rfl)
      rw [h0] at w0
      rw [h1] at w1'
      rw [h2] at w2'
      rw [h3] at w3'
      rw [h4] at w4'
      have hodd := odd_new (T := 41) hd ⟨⟨_, rfl⟩, w0⟩ ⟨⟨_, rfl⟩, w1'⟩ ⟨⟨_, rfl⟩, w2'⟩ ⟨⟨_, rfl⟩, w3'⟩ ⟨⟨_, rfl⟩, w4'⟩
      refine wpOp_at rfl rfl ?_
      unfold T
      go_simp
      refine St.next (x := .slice (some ⟨w3.heap.size, 0, none⟩) 5 5) hb hS (by simp [T, updV, h0, h1, h2, h3, h4]) (below_alloc (Below.refl _ _) _) hodd
    · have e18 : OddAt k (vals 18) w3 := hS 18 (hdep _ rfl ⟨18, .data⟩ (by simp) rfl)
      refine wpOp_at rfl rfl ?_
      unfold T
      go_simp
      refine St.next (x := vals 18) hb hS (by simp [T, updV]) (Below.refl _ _) e18
  · rintro listed a w3 hs hr ⟨vals, rfl, hb, hS⟩
    have s19 : OddAt k (vals 19) w3 := hS 19 (all_listed (deps_of (by kernel_rfl)) hs hr 19 (by simp))
    obtain ⟨b, d, hv, hlt, hd, hc⟩ := s19
    obtain ⟨i, hi, hi5⟩ := pick_nat a1 5 (by omega)
    have HI := Lib.hid hi
    have hi5' : i < 5 := by omega
    obtain ⟨u, hu, ⟨bu, hub⟩, huw⟩ := hc i hi5'
    subst hub
    have HUW := Lib.hid huw
    have HD := Lib.hid hd
    have g0' := (hb.cell (p := ⟨G, 0, none⟩) hGW).trans g0
    have g1' := (hb.cell (p := ⟨G, 1, none⟩) hGW).trans g1
    have hG3 := Nat.lt_of_lt_of_le hGW hb.size
    have hbw3 := below_then hbW hb
    have HAT3 := Lib.hid (HAT.out.keep hb)
    have HE : ∀ j, j < 5 → (#[Value.int .i64 1, .int .i64 6, .int .i64 6, .int .i64 4, .int .i64 1] : Array Value)[j]? = some (.int .i64 (oddErr j)) := fun j hj => by
      match j, hj with
      | 0, _ => rfl
      | 1, _ => rfl
      | 2, _ => rfl
      | 3, _ => rfl
      | 4, _ => rfl
    have HEE := Lib.hid HE
    have hce := (cell_of_row (w3.alloc (.cells #[.int .i64 1, .int .i64 6, .int .i64 6, .int .i64 4, .int .i64 1] 29)) w3.heap.size i _ 29 (0, 0) (by show (w3.heap.push _)[w3.heap.size]? = _; simp)).trans (HE i hi5')
    have HCE := Lib.hid hce
    clear hi hd hc hS huw g0 g1 HE hce hmk hs hr
    unfold T
    rw [hv]
    go_wp2_with (go_at_call 9; refine (picked_any _ _ HA1.out (by omega) _).mono ?_; rw [HI.out]; rintro e w2 ⟨rfl, rfl⟩)
    have hkn : k < 16 := by omega
    have hkk0 : (0 : Int) ≤ (i : Int) := by omega
    have hkk5 : (i : Int) < 5 := by omega
    obtain ⟨W4, hW4⟩ : ∃ W4, W4 = w3.alloc (.cells #[.int .i64 1, .int .i64 6, .int .i64 6, .int .i64 4, .int .i64 1] 29) := ⟨_, rfl⟩
    obtain ⟨E, hE⟩ : ∃ E, w3.heap.size = E := ⟨_, rfl⟩
    have hb34 : Below w3.heap.size w3 W4 := by rw [hW4]; exact below_alloc (Below.refl _ _) _
    have q0 := (hb34.cell (p := ⟨G, 0, none⟩) hG3).trans g0'
    have q1 := (hb34.cell (p := ⟨G, 1, none⟩) hG3).trans g1'
    have qb := (hb34.cell (p := ⟨b, i, none⟩) hlt).trans hu
    have qe : W4.cell? ⟨E, i, none⟩ = some (.int .i64 (oddErr i)) := by rw [hW4, ← hE]; exact HCE.out
    have hE4 : E < W4.heap.size := by rw [hW4, ← hE]; simp
    have hG4 : G < W4.heap.size := by omega
    have hb4 : b < W4.heap.size := by omega
    have hbw4 : Below w.heap.size w W4 := below_then hbw3 hb34
    have HAT4 := Lib.hid (HAT3.out.keep hb34)
    have HUW4 := Lib.hid (HUW.out.keep hb34)
    have n1 : ¬ W4.heap.size = G := by omega
    have n2 : ¬ G = W4.heap.size := by omega
    have n3 : ¬ W4.heap.size = b := by omega
    have n4 : ¬ b = W4.heap.size := by omega
    have n5 : ¬ W4.heap.size = E := by omega
    have n6 : ¬ E = W4.heap.size := by omega
    rw [← hW4, hE]
    clear hW4 hb34 g0' g1' hu hE HAT3 HUW HCE hlt hG3 hbw3 hb hbW hGW HAT HEE HI HROW
    go_region_held3 (fun w' => w'.cell? ⟨G, 0, none⟩ = some (.slice p V.items.length c) ∧ w'.cell? ⟨G, 1, none⟩ = some (.slice pz V.blocks.length cz) ∧ w'.cell? ⟨b, i, none⟩ = some (.slice (some ⟨bu, 0, none⟩) (odd k d i).length (odd k d i).length)) (first | exact ⟨k0, k1, k2⟩ | go_keep)
      (first
        | (go_at_call 17; refine (Apply_odd HV16.out hkn HD.out i _ _ _ (HAT4.out.keep (Below.refl _ _).drew) (HUW4.out.keep (Below.refl _ _).drew)).mono ?_; rintro e w5 ⟨p5, c5, p6, c6, rfl, hb5⟩; have hb45 : Below W4.heap.size W4 w5 := below_then (Below.refl _ _).drew hb5; have k0 := (hb45.cell (p := ⟨G, 0, none⟩) hG4).trans q0; have k1 := (hb45.cell (p := ⟨G, 1, none⟩) hG4).trans q1; have k2 := (hb45.cell (p := ⟨b, i, none⟩) hb4).trans qb; have hz4 := hb45.size)
        | (go_at_call 17; refine (Apply_odd HV16.out hkn HD.out i _ _ _ (HAT4.out.keep (below_alloc (Below.refl _ _).drew _)) (HUW4.out.keep (below_alloc (Below.refl _ _).drew _))).mono ?_; rintro e w5 ⟨p5, c5, p6, c6, rfl, hb5⟩; have hb45 : Below W4.heap.size W4 w5 := below_then (below_alloc (Below.refl _ _).drew _) hb5; have k0 := (hb45.cell (p := ⟨G, 0, none⟩) hG4).trans q0; have k1 := (hb45.cell (p := ⟨G, 1, none⟩) hG4).trans q1; have k2 := (hb45.cell (p := ⟨b, i, none⟩) hb4).trans qb; have hz4 := hb45.size; (obtain ⟨e0, e1, x0, x1, hz5⟩ := blk2 hb5); (change w5.cell? ⟨W4.heap.size, 0, none⟩ = _ at e0); (change w5.cell? ⟨W4.heap.size, 1, none⟩ = _ at e1); (change w5.frozen? ⟨W4.heap.size, 0, none⟩ = _ at x0); (change w5.frozen? ⟨W4.heap.size, 1, none⟩ = _ at x1); (change W4.heap.size < _ at hz5)))
    · obtain ⟨W6, hW6⟩ : ∃ W6, W6 = w5.alloc (.cells #[.slice p5 0 c5, .slice p6 0 c6] 26) := ⟨_, rfl⟩
      have hb46 : Below W4.heap.size W4 W6 := by rw [hW6]; exact below_alloc hb45 _
      obtain ⟨A, hA⟩ : ∃ A, w5.heap.size = A := ⟨_, rfl⟩
      have a1' : W6.cell? ⟨A, 1, none⟩ = some (.slice p6 0 c6) := by rw [hW6, ← hA]; simp
      have hA6 : A < W6.heap.size := by rw [hW6, ← hA]; simp
      rw [← hW6, hA]
      clear hW6 hA hb45 hb5 k0 k1 k2 hz4
      have r0 := (hb46.cell (p := ⟨G, 0, none⟩) hG4).trans q0
      have r1 := (hb46.cell (p := ⟨G, 1, none⟩) hG4).trans q1
      have re := (hb46.cell (p := ⟨E, i, none⟩) hE4).trans qe
      have hE6 := Nat.lt_of_lt_of_le hE4 hb46.size
      have hbw6 := below_then hbw4 hb46
      have HAT6 := Lib.hid (HAT4.out.keep hb46)
      go_wp2_with (first
        | (go_at_call 23; with_reducible refine (Read_none HV16.out k hkn _ _ HAT6.out).mono ?_; rintro e w7 ⟨rfl, hb7⟩; have s1 := (hb7.cell (p := ⟨A, 1, none⟩) hA6).trans a1'; have se := (hb7.cell (p := ⟨E, i, none⟩) hE6).trans re; have hA7 := Nat.lt_of_lt_of_le hA6 hb7.size; have hE7 : E < w7.heap.size := Nat.lt_of_lt_of_le hE6 hb7.size)
        | (go_at_call 23; with_reducible refine (Read_zero _).mono ?_; rintro e w8 ⟨rfl, hb8⟩; have t1 := (hb8.cell (p := ⟨A, 1, none⟩) hA7).trans s1; have te := (hb8.cell (p := ⟨E, i, none⟩) hE7).trans se))
      go_ret
      exact ⟨rfl, below_then (below_then hbw6 hb7) hb8⟩
    · obtain ⟨W6, hW6⟩ : ∃ W6, W6 = (w5.setCell ⟨W4.heap.size, 0, none⟩ (.slice p5 0 c5)).setCell ⟨W4.heap.size, 1, none⟩ (.slice p6 0 c6) := ⟨_, rfl⟩
      have hb56 : Below W4.heap.size w5 W6 := by rw [hW6]; exact ((Below.refl _ _).setCell (p := ⟨W4.heap.size, 0, none⟩) (Nat.le_refl _) _).setCell (p := ⟨W4.heap.size, 1, none⟩) (Nat.le_refl _) _
      have hb46 : Below W4.heap.size W4 W6 := by rw [hW6]; exact (hb45.setCell (p := ⟨W4.heap.size, 0, none⟩) (Nat.le_refl _) _).setCell (p := ⟨W4.heap.size, 1, none⟩) (Nat.le_refl _) _
      have a1' : W6.cell? ⟨W4.heap.size, 1, none⟩ = some (.slice p6 0 c6) := by rw [hW6]; simp [go_sem, e0, e1]
      have hA6 : W4.heap.size < W6.heap.size := Nat.lt_of_lt_of_le hz5 hb56.size
      rw [← hW6]
      clear hW6 hb45 hb5 k0 k1 k2 hz4 e0 e1 x0 x1 hz5 hb56
      have r0 := (hb46.cell (p := ⟨G, 0, none⟩) hG4).trans q0
      have r1 := (hb46.cell (p := ⟨G, 1, none⟩) hG4).trans q1
      have re := (hb46.cell (p := ⟨E, i, none⟩) hE4).trans qe
      have hE6 := Nat.lt_of_lt_of_le hE4 hb46.size
      have hbw6 := below_then hbw4 hb46
      have HAT6 := Lib.hid (HAT4.out.keep hb46)
      go_wp2_with (first
        | (go_at_call 23; with_reducible refine (Read_none HV16.out k hkn _ _ HAT6.out).mono ?_; rintro e w7 ⟨rfl, hb7⟩; have s1 := (hb7.cell (p := ⟨W4.heap.size, 1, none⟩) hA6).trans a1'; have se := (hb7.cell (p := ⟨E, i, none⟩) hE6).trans re; have hA7 := Nat.lt_of_lt_of_le hA6 hb7.size; have hE7 : E < w7.heap.size := Nat.lt_of_lt_of_le hE6 hb7.size)
        | (go_at_call 23; with_reducible refine (Read_zero _).mono ?_; rintro e w8 ⟨rfl, hb8⟩; have t1 := (hb8.cell (p := ⟨W4.heap.size, 1, none⟩) hA7).trans s1; have te := (hb8.cell (p := ⟨E, i, none⟩) hE7).trans se))
      go_ret
      exact ⟨rfl, below_then (below_then hbw6 hb7) hb8⟩
end Go.Proofs.YtajjhjabehiikabDoor.writesBad
