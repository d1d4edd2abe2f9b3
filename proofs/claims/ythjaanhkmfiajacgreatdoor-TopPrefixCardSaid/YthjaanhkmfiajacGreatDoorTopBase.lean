/- The plain mathematics of items, volumes, writes, logs and engines, and rows that a call owns: texts merged into one. No condition but those in the statements. -/
import Derived.Test.YthjaanhkmfiajacGreatDoorEngPure
import Derived.Test.YthjaanhkmfiajacGreatDoorPure
import Derived.Test.YthjaanhkmfiajacGreatDoorVolRead
import Derived.Test.YthjaanhkmfiajacGreatDoorChecked
import Derived.Deep.QuietTactic
import Derived.BigQuiet
import Derived.IntWalk
import Derived.Lib.Hide
import Derived.Test.YthjaanhkmfiajacGreatDoorEngRun
import Derived.Test.YthjaanhkmfiajacGreatDoorPicked
import Derived.Test.YthjaanhkmfiajacGreatDoorKeepActs
import Derived.Lib.SliceRun
/- The statements' own Reads: what all blocks of a valid volume read. No condition but that the volume is valid. -/
namespace Go.Proofs.YthjaanhkmfiajacGreatDoor
open Go.RowKit

theorem Tryz.infoStr : (Tryz.prog.info? 9).map (fun i => (i.zero, i.size, i.bytes)) = some (some (.string ⟨#[]⟩), 1, 16) := by kernel_rfl

theorem Read_at {V : Vol} (hV : VOk V) {k : Nat} (hk : k < V.blocks.length) (v : Value) (w : World) (h : VolAt w v V) :
    Calls Tryz.prog 37 #[v, .int .i64 (k : Int)] w fun e w' => e = .returned (.tuple #[.string (rd V k), .int .i64 0]) ∧ Below w.heap.size w w' := by
  have hl := hV.len.2
  have := VRead_any v V (k : Int) (by omega) w h hV.wideZ
  rw [readOf_ok hV hk] at this
  exact this

/-- the loop's state -/
def ReadSt (w : World) (a b : Value) (V : Vol) (k : Nat) (vo : Value) (wr : World) : Prop :=
  OwnS (w.alloc (.cells #[a, b] 30)).heap.size 9 vo ((List.range k).map (rd V)) (w.alloc (.cells #[a, b] 30)) wr

set_option maxRecDepth 100000 in
set_option maxHeartbeats 2000000 in
theorem Reads_any (v : Value) (V : Vol) (w : World) (h : VolAt w v V) (hV : VOk V) :
    Calls Tryz.prog 25 #[v] w fun e w' => ∃ v', e = .returned v' ∧ OwnS w.heap.size 9 v' (rds V) w w' := by
  obtain ⟨i0, hi, hz0, hz1, hz2⟩ := info_parts Tryz.infoStr
  have h' := h
  obtain ⟨vi, vb, rfl, hI, hZ⟩ := h'
  obtain ⟨p, cap, rfl, _⟩ := hI
  obtain ⟨pz, capz, rfl, _⟩ := hZ
  have HV := Lib.hid h
  have HOK := Lib.hid hV
  have hl := hV.len.2
  clear h hV
  have hst : ReadSt w (.slice p V.items.length cap) (.slice pz V.blocks.length capz) V 0 (.slice none 0 0) (w.alloc (.cells #[.slice p V.items.length cap, .slice pz V.blocks.length capz] 30)) := OwnS.nil (Below.refl _ _) (Nat.le_refl _)
  go_enter Tryz.func25, Tryz.ntmps25
  go_wp2
  go_loopw [3, 10] (fun out i wr => ∃ (k : Nat) (vo : Value), k ≤ V.blocks.length ∧ i = .int .i64 (k : Int) ∧ vo = out ∧ ReadSt w (.slice p V.items.length cap) (.slice pz V.blocks.length capz) V k vo wr) (fun _ i _ => V.blocks.length - (intOf i).toNat)
  case atStart => exact ⟨0, _, Nat.zero_le _, rfl, rfl, hst⟩
  case round =>
    clear hst
    obtain ⟨k, vo, hk, rfl, rfl, hst⟩ := hrel
    have hP : Past2 w (.slice p V.items.length cap) (.slice pz V.blocks.length capz) 30 wr := hst.below
    obtain ⟨q0, q1, f0, f1, hz⟩ := hP.cells
    by_cases hlt : k < V.blocks.length
    · obtain ⟨d, hd⟩ : ∃ d, rd V k = d := ⟨_, rfl⟩
      have HD := Lib.hid hd
      have HST := Lib.hid hst
      clear hd hst
      go_wp2_with (first
        | (go_at_call 37; refine (Read_at HOK.out hlt _ _ (HV.out.keep hP.box)).mono ?_; rw [HD.out]; rintro e w2 ⟨rfl, hb2⟩; have HO2 := Lib.hid (OwnS.past HST.out hb2))
        | (at_builtin; refine wpList_own_str rfl (.tmp 19) (.tmp 21) 51 rfl _ 9 i0 _ Tryz.underlying51 hi hz0 rfl hz1 hz2 vo _ rfl _ w2 d HO2.out _ rfl rfl (by simp; omega) ?_; intro v3 w3 hown3 _))
      go_roundw
      case rel => exact ⟨k + 1, _, by omega, by go_num, rfl, by unfold ReadSt; rw [List.range_succ, List.map_append, List.map_singleton, HD.out]; exact hown3⟩
      case measure => simp [intOf]; omega
    · have hkl : k = V.blocks.length := by omega
      have hfin : OwnS w.heap.size 9 vo (rds V) w wr := by
        unfold ReadSt at hst
        rw [hkl] at hst
        exact OwnS.lower hst (by simp) (below_alloc (Below.refl _ _) _)
      have HF := Lib.hid hfin
      clear hfin hst hkl
      go_wp2
      go_ret
      exact ⟨_, rfl, HF.out⟩
end Go.Proofs.YthjaanhkmfiajacGreatDoor

/- slices.Equal at items and at strings, both slices holding the same: true. No condition. -/
namespace Go.Proofs.YthjaanhkmfiajacGreatDoor
open Go.RowKit

set_option maxRecDepth 100000 in
theorem EqualI_any (v u : Value) (L : List It) (w : World) (hv : ItemsAt w v L) (hu : ItemsAt w u L) :
    Calls Tryz.prog 17 #[v, u] w fun e w' => e = .returned (.bool true) ∧ Below w.heap.size w w' := by
  obtain ⟨p, cap, rfl, hl, _, hc⟩ := hv
  obtain ⟨p', cap', rfl, _, _, hc'⟩ := hu
  have HC := Lib.hid hc
  have HC' := Lib.hid hc'
  clear hc hc'
  go_enter Tryz.func17, Tryz.ntmps17
  go_wp2
  go_loopw [13] (fun i wr => ∃ k : Nat, k ≤ L.length ∧ i = .int .i64 k ∧ Below w.heap.size w wr) (fun i _ => L.length - (intOf i).toNat)
  case atStart => exact ⟨0, Nat.zero_le _, rfl, Below.refl _ _⟩
  case round =>
    obtain ⟨k, hk, rfl, hb⟩ := hrel
    by_cases hlt : k < L.length
    · obtain ⟨x, hx⟩ : ∃ x, L[k]? = some x := ⟨L[k], List.getElem?_eq_getElem hlt⟩
      obtain ⟨b, off, rfl, hbl, c0, c1, c2⟩ := HC.out k x hx
      obtain ⟨b', off', rfl, hbl', d0, d1, d2⟩ := HC'.out k x hx
      replace c0 := (hb.cell (p := ⟨b, _, none⟩) hbl).trans c0
      replace c1 := (hb.cell (p := ⟨b, _, none⟩) hbl).trans c1
      replace c2 := (hb.cell (p := ⟨b, _, none⟩) hbl).trans c2
      replace d0 := (hb.cell (p := ⟨b', _, none⟩) hbl').trans d0
      replace d1 := (hb.cell (p := ⟨b', _, none⟩) hbl').trans d1
      replace d2 := (hb.cell (p := ⟨b', _, none⟩) hbl').trans d2
      clear hx
      go_wp2
      go_quiet (fail)
      go_wp2
      all_goals
        go_roundw
        case rel => exact ⟨k + 1, by omega, by go_num, below_dr hb _⟩
        case measure => simp [intOf]; omega
    · go_wp2
      go_ret
      exact ⟨rfl, hb⟩

set_option maxRecDepth 100000 in
theorem EqualS_any (v u : Value) (L : List ByteArray) (w : World) (hv : StrsAt w v L) (hu : StrsAt w u L) :
    Calls Tryz.prog 24 #[v, u] w fun e w' => e = .returned (.bool true) ∧ Below w.heap.size w w' := by
  obtain ⟨p, cap, rfl, hl, _, hc⟩ := hv
  obtain ⟨p', cap', rfl, _, _, hc'⟩ := hu
  have HC := Lib.hid hc
  have HC' := Lib.hid hc'
  clear hc hc'
  go_enter Tryz.func24, Tryz.ntmps24
  go_wp2
  go_loopw [13] (fun i wr => ∃ k : Nat, k ≤ L.length ∧ i = .int .i64 k ∧ Below w.heap.size w wr) (fun i _ => L.length - (intOf i).toNat)
  case atStart => exact ⟨0, Nat.zero_le _, rfl, Below.refl _ _⟩
  case round =>
    obtain ⟨k, hk, rfl, hb⟩ := hrel
    by_cases hlt : k < L.length
    · obtain ⟨x, hx⟩ : ∃ x, L[k]? = some x := ⟨L[k], List.getElem?_eq_getElem hlt⟩
      obtain ⟨b, off, rfl, hbl, c0⟩ := HC.out k x hx
      obtain ⟨b', off', rfl, hbl', d0⟩ := HC'.out k x hx
      replace c0 := (hb.cell (p := ⟨b, _, none⟩) hbl).trans c0
      replace d0 := (hb.cell (p := ⟨b', _, none⟩) hbl').trans d0
      clear hx
      go_wp2
      go_quiet (fail)
      go_wp2
      all_goals
        go_roundw
        case rel => exact ⟨k + 1, by omega, by go_num, below_dr hb _⟩
        case measure => simp [intOf]; omega
    · go_wp2
      go_ret
      exact ⟨rfl, hb⟩
end Go.Proofs.YthjaanhkmfiajacGreatDoor

/- The statements' own crash, run and reads, Picked, and slices.Clone at actions. Conditions: the actions' numbers are ints; at most three hundred actions. -/
namespace Go.Proofs.YthjaanhkmfiajacGreatDoor
open Go.RowKit LM

theorem Picked_any (n m : Int) (hn : -9223372036854775808 ≤ n ∧ n ≤ 9223372036854775807) (hm : 0 < m ∧ m ≤ 140737488355329) (w : World) :
    Calls Tryz.prog 23 #[.int .i64 n, .int .i64 m] w fun e w' => e = .returned (.int .i64 (pick n m)) ∧ Below w.heap.size w w' := by
  have HN := Lib.hid hn
  have HM := Lib.hid hm
  clear hn hm
  go_enter Tryz.func23, Tryz.ntmps23
  go_wp2_with (go_at_call 13; refine (picked_any n m HN.out HM.out _).mono ?_; rintro e w1 ⟨rfl, rfl⟩)
  go_ret
  exact ⟨rfl, Below.refl _ _⟩

set_option maxRecDepth 100000 in
theorem crash_c (k : Int) (w : World) : Calls Tryz.prog 22 #[.int .i64 k] w fun e w' => e = .returned (.agg #[.int .i64 7, .int .i64 0, .string ⟨#[]⟩, .int .i64 k]) ∧ Below w.heap.size w w' := by
  go_enter Tryz.func22, Tryz.ntmps22
  go_wp2
  exact bodyPost_ret (v := .agg #[.int .i64 7, .int .i64 0, .string ⟨#[]⟩, .int .i64 k]) (by simp [results, Tryz.results22, go_sem]) rfl ⟨rfl, below_alloc (Below.refl _ _) _⟩

set_option maxRecDepth 100000 in
set_option maxHeartbeats 2000000 in
theorem run_any (u : Value) (l : List EM.Act) (hl : l.length ≤ 300) (hok : ∀ a ∈ l, ActOk a) (w : World) (hu : ActsAt w u l) :
    Calls Tryz.prog 21 #[u] w (RunRet 8 l w) := by
  have hb0 := below_alloc (Below.refl w.heap.size w) (.cells #[.slice none 0 0, .slice none 0 0] 30)
  have hR : Calls Tryz.prog 14 #[.int .i64 8, u] _ _ := Run_ok 8 (by omega) u l hl hok (w.alloc (.cells #[.slice none 0 0, .slice none 0 0] 30)) (hu.keep hb0)
  obtain ⟨pu, cu, rfl, _, _, _⟩ := hu
  have h5 := VBox.new w (.slice none 0 0) (.slice none 0 0)
  obtain ⟨W1, hW1⟩ : ∃ W, W = w.alloc (.cells #[.slice none 0 0, .slice none 0 0] 30) := ⟨_, rfl⟩
  obtain ⟨R, hRn⟩ : ∃ R, R = EM.runL (EM.start 8) l := ⟨_, rfl⟩
  have hRl : R.2.length = l.length := by rw [hRn, EM.runL_len]
  unfold RunRet at hR
  rw [← hRn, ← hW1] at hR
  unfold RunRet
  rw [← hRn]
  rw [← hW1] at h5 hb0
  have HR := Lib.hid hR
  have HRL := Lib.hid hRl
  have HW1 := Lib.hid hW1
  have H5 := Lib.hid h5
  have HB0 := Lib.hid hb0
  have hw5 : w.heap.size < W1.heap.size := h5.lt
  clear hR hRl hRn h5 hb0 hW1
  go_enter Tryz.func21, Tryz.ntmps21
  go_upto_region 1 with (fail)
  rw [← HW1.out]
  go_wp2_with (go_at_call 14; refine HR.out.mono ?_; rintro e w2 ⟨v, x, y, rfl, ho, hv⟩; obtain ⟨pv, cv, qv, dv, rfl, rfl⟩ := hv.slices; obtain ⟨pa, ca, rfl⟩ := ho.isSlice; rw [HRL.out]; have HO := Lib.hid ho; have HV := Lib.hid hv; clear ho hv)
  obtain ⟨V, hV⟩ : ∃ V, V = R.1.now := ⟨_, rfl⟩
  obtain ⟨AL, hAL⟩ : ∃ AL, AL = R.2 := ⟨_, rfl⟩
  have ho := HO.out
  have hv := HV.out
  have hr := HRL.out
  rw [← hAL] at ho hr
  rw [← hV] at hv ⊢
  have hb2 : Below W1.heap.size W1 w2 := ho.below
  have h5 := H5.out.keep hb2
  obtain ⟨G, hG⟩ : ∃ G, G = w2.heap.size := ⟨_, rfl⟩
  obtain ⟨W6, hW6⟩ : ∃ W, W = w2.alloc (.cells #[.slice pv V.items.length cv, .slice qv V.blocks.length dv] 30) := ⟨_, rfl⟩
  have hbx : VBox W6 G (.slice pv V.items.length cv) (.slice qv V.blocks.length dv) := by rw [hW6, hG]; exact VBox.new _ _ _
  have hal : Below w2.heap.size w2 W6 := by rw [hW6]; exact below_alloc (Below.refl _ _) _
  have h56 := h5.keep hal
  have ho6 := ho.past hal
  have hv6 := hv.keep hal
  rw [← hG, ← hW6]
  have hne1 : ¬ G = w.heap.size := by have := h5.lt; omega
  have hne2 : ¬ w.heap.size = G := fun e => hne1 e.symm
  obtain ⟨c0, c1, _, _⟩ := hbx.at
  obtain ⟨e50, e51, f50, f51⟩ := h56.at
  have HV6 := Lib.hid hv6
  have HVV := Lib.hid hV
  have HALL := Lib.hid hAL
  have HRR := Lib.hid hr
  have H56 := Lib.hid h56
  have HO6 := Lib.hid ho6
  clear ho hv hr h5 hal hb2 h56 ho6 hv6 hbx hW6 hG hV hAL HO HV
  go_region_held3 (fun w' => w'.cell? ⟨G, 0, none⟩ = some (.slice pv V.items.length cv) ∧ w'.cell? ⟨G, 1, none⟩ = some (.slice qv V.blocks.length dv)) (go_keep) (fail)
  go_wp2
  have hrow := HO6.out.lower HB0.out.size HB0.out
  have hgr : W6.grownBy ((W6.setCell ⟨w.heap.size, 0, none⟩ (.slice pv V.items.length cv)).setCell ⟨w.heap.size, 1, none⟩ (.slice qv V.blocks.length dv)) (some w.heap.size) :=
    ⟨rfl, rfl, rfl, by simp [World.setCell], fun k hk hne => by
      rw [Below.heap_setCell _ _ _ _ (show k ≠ w.heap.size from fun e => hne (by rw [e])), Below.heap_setCell _ _ _ _ (show k ≠ w.heap.size from fun e => hne (by rw [e]))]⟩
  have hoff : (Value.slice pa AL.length ca).ownBlock ≠ some w.heap.size := fun e => type_apart (by decide) hrow.1 H56.out e.symm
  have hfin : OwnR ansC 5 w.heap.size 39 (.slice pa AL.length ca) AL w ((W6.setCell ⟨w.heap.size, 0, none⟩ (.slice pv V.items.length cv)).setCell ⟨w.heap.size, 1, none⟩ (.slice qv V.blocks.length dv)).drew :=
    OwnR.drew ⟨hrow.1.kept hgr (.inr hoff), (hrow.2.1.setCell (p := ⟨w.heap.size, 0, none⟩) (Nat.le_refl _) _).setCell (p := ⟨w.heap.size, 1, none⟩) (Nat.le_refl _) _, Nat.le_trans hrow.2.2 hgr.size⟩
  have hvf : VolTy ((W6.setCell ⟨w.heap.size, 0, none⟩ (.slice pv V.items.length cv)).setCell ⟨w.heap.size, 1, none⟩ (.slice qv V.blocks.length dv)).drew (.slice pv V.items.length cv) (.slice qv V.blocks.length dv) V :=
    (HV6.out.box H56.out _ _).keep (Below.refl _ _).drew
  rw [HRR.out] at hfin
  rw [HALL.out] at hfin
  have hVV := HVV.out
  exact bodyPost_ret (v := .tuple #[.slice pa l.length ca, .agg #[.slice pv V.items.length cv, .slice qv V.blocks.length dv], .int .i64 0]) (by simp [results, Tryz.results21, go_sem, e50, e51]) rfl ⟨_, _, _, rfl, hfin, by rw [← hVV]; exact hvf⟩

set_option maxRecDepth 100000 in
set_option maxHeartbeats 2000000 in
theorem reads_any (u : Value) (l : List EM.Act) (hl : l.length ≤ 300) (hok : ∀ a ∈ l, ActOk a) (w : World) (hu : ActsAt w u l) :
    Calls Tryz.prog 26 #[u] w fun e w' => ∃ v, e = .returned (.tuple #[v, .bool true]) ∧ OwnS w.heap.size 9 v (rds (EM.runL (EM.start 8) l).1.now) w w' := by
  have hR := run_any u l hl hok w hu
  have hV := (EM.runL_inv l (EM.Inv.start (n := 8) (by omega))).now
  obtain ⟨R, hRn⟩ : ∃ R, R = EM.runL (EM.start 8) l := ⟨_, rfl⟩
  unfold RunRet at hR
  rw [← hRn] at hR hV ⊢
  have HR := Lib.hid hR
  have HVO := Lib.hid hV
  clear hR hRn hV
  go_enter Tryz.func26, Tryz.ntmps26
  go_wp2_with (first
    | (go_at_call 21; refine HR.out.mono ?_; rintro e w2 ⟨v, x, y, rfl, ho, hv⟩; obtain ⟨pv, cv, qv, dv, rfl, rfl⟩ := hv.slices; obtain ⟨pa, ca, rfl⟩ := ho.isSlice; have HO := Lib.hid ho; have HV := Lib.hid hv; clear ho hv)
    | (go_at_call 25; refine (Reads_any _ R.1.now _ (HV.out.keep (below_alloc (Below.refl _ _) _)).at HVO.out.1).mono ?_; rintro e w3 ⟨v3, rfl, ho3⟩; have HO3 := Lib.hid ho3; clear ho3))
  go_ret2
  have h3 := HO3.out
  have hbw : Below w.heap.size w (w2.alloc (.cells #[.slice pv R.1.now.items.length cv, .slice qv R.1.now.blocks.length dv] 30)) := below_alloc HO.out.below _
  exact ⟨_, rfl, h3.lower hbw.size hbw⟩

set_option maxRecDepth 100000 in
set_option maxHeartbeats 1000000 in
theorem CloneA_any (v : Value) (L : List EM.Act) (w : World) (h : ActsAt w v L) (hlen : L.length ≤ 1000) :
    Calls Tryz.prog 15 #[v] w fun e w' => ∃ v', e = .returned v' ∧ OwnR actC 4 w.heap.size 36 v' L w w' := by
  obtain ⟨i0, hi, hz0, hz1, hz2⟩ := info_parts infoAct
  have h' := h
  obtain ⟨p, cap, rfl, hl, hn, hc⟩ := h'
  have HI := Lib.hid h
  clear h
  have q22 : ∀ (w : World) (a : Option Addr) (n c n' c' : Nat), (binOp .eql 23 (.slice a n c) (.slice none n' c')).run Tryz.prog w = .ok (.bool a.isNone) w := fun w a n c n' c' => Lib.run_eql_slice_nil w _ _ a n c n' c' Tryz.underlying23
  cases p with
  | none =>
    have hL : L = [] := by
      cases L with
      | nil => rfl
      | cons y M => obtain ⟨_, _, hp, _⟩ := hc 0 y rfl; cases hp
    subst hL
    obtain rfl := hn rfl
    clear hc hn
    go_enter Tryz.func15, Tryz.ntmps15
    go_wp2
    go_ret
    exact ⟨_, rfl, OwnR.nil (Below.refl _ _) (Nat.le_refl _)⟩
  | some ad =>
    clear hc hn
    have h0 : OwnR actC 4 w.heap.size 36 (.slice (some ⟨w.heap.size, 0, none⟩) 0 0) [] w (w.alloc (.cells #[] 36)) := ⟨World.ownsRow_made w #[] 0 (Nat.le_refl _) (Nat.zero_le _) rfl, below_alloc (Below.refl _ _) _, by simp⟩
    have H0 := Lib.hid h0
    clear h0
    go_enter Tryz.func15, Tryz.ntmps15
    go_wp2_with (at_builtin; refine wpList_own_rs actE rfl _ _ 23 rfl w.heap.size 36 i0 _ 40 Tryz.underlying23 hi hz0 rfl hz1 hz2 _ [] rfl w L _ H0.out (HI.out.keep (below_alloc (Below.refl _ _) _)) rfl (by simp; omega) (by simp; omega) ?_; intro v2 w2 hown2 hg2)
    go_ret
    exact ⟨_, rfl, hown2.cast (by simp)⟩
end Go.Proofs.YthjaanhkmfiajacGreatDoor

/- Facts for the statements of the whole system: what is read behind a script, a new row of actions, an answer's cells. No condition but those in the statements. -/
namespace Go.Proofs.YthjaanhkmfiajacGreatDoor
open Go.RowKit LM

/-- a slice just built -/
theorem rows_new {α : Type} {enc : α → List Value} {k : Nat} (he : Enc enc k) (M : List α) (hl : M.length ≤ 140737488355328) (w : World) (T : TypeId) (o : Array Value) (ho : o = (rcells enc M).toArray) :
    RowsAt enc k (w.alloc (.cells o T)) (.slice (some ⟨w.heap.size, 0, none⟩) M.length M.length) M := by
  subst ho
  refine ⟨_, _, rfl, hl, (fun h => by cases h), fun i x hx => ⟨_, 0, rfl, by simp, fun j hj => ?_⟩⟩
  have hg : (w.alloc (.cells (rcells enc M).toArray T)).heap[w.heap.size]? = some (.cells (rcells enc M).toArray T (0, 0)) := by
    show (w.heap.push _)[w.heap.size]? = _
    simp
  have hi := (List.getElem?_eq_some_iff.1 hx).1
  rw [Nat.zero_add, cell_of_row _ _ _ _ _ _ hg]
  simp only [List.getElem?_toArray]
  exact rcells_at he M i x j hx hj
/-- what the blocks read behind a script over eight blocks -/
def reads8 (l : List EM.Act) : List ByteArray := rds (EM.runL (EM.start 8) l).1.now
theorem inv8 (l : List EM.Act) : EM.Inv 8 (EM.runL (EM.start 8) l).1 := EM.runL_inv l (EM.Inv.start (by omega))
theorem reads8_len (l : List EM.Act) : (reads8 l).length = 8 := by
  unfold reads8
  rw [rds_len, (inv8 l).now.2]
theorem run_append (l m : List EM.Act) : EM.runL (EM.start 8) (l ++ m) = ((EM.runL (EM.runL (EM.start 8) l).1 m).1, (EM.runL (EM.start 8) l).2 ++ (EM.runL (EM.runL (EM.start 8) l).1 m).2) := EM.runL_append l m _
theorem ActOk.append {A M : List EM.Act} (h : ∀ a ∈ A, ActGood a) (hm : ∀ a ∈ M, ActOk a) : ∀ a ∈ A ++ M, ActOk a := by
  intro a ha
  rcases List.mem_append.1 ha with ha | ha
  · exact (h a ha).ok
  · exact hm a ha
theorem act_ok {k b p : Int} {d : ByteArray} (hk : 0 ≤ k ∧ k ≤ 100) (hb : 0 ≤ b ∧ b ≤ 100) (hp : 0 ≤ p ∧ p ≤ 1000000) : ActOk ⟨k, b, d, p⟩ :=
  ⟨⟨by show (-9223372036854775808 : Int) ≤ k; omega, by show k ≤ (9223372036854775807 : Int); omega⟩, ⟨by show (-9223372036854775808 : Int) ≤ b; omega, by show b ≤ (9223372036854775807 : Int); omega⟩, ⟨by show (-9223372036854775808 : Int) ≤ p; omega, by show p ≤ (9223372036854775807 : Int); omega⟩⟩
theorem crash_ok {k : Int} (h : 0 ≤ k ∧ k ≤ 1000000) : ActOk (EM.crash k) := act_ok ⟨by omega, by omega⟩ ⟨by omega, by omega⟩ h
theorem kind_ok {k : Int} (h : 0 ≤ k ∧ k ≤ 100) : ActOk (EM.act k) := act_ok h ⟨by omega, by omega⟩ ⟨by omega, by omega⟩
/-- the answer at a place -/
theorem ans_cells {w : World} {v : Value} {X : List EM.Ans} (h : RowsAt ansC 5 w v X) {i : Nat} {z : EM.Ans} (hz : X[i]? = some z) : ∃ b off c, v = .slice (some ⟨b, off, none⟩) X.length c ∧ b < w.heap.size ∧
    w.cell? ⟨b, off + i * 5, none⟩ = some (.int .i64 z.code) ∧ w.cell? ⟨b, off + i * 5 + 1, none⟩ = some (.string z.data) ∧ w.cell? ⟨b, off + i * 5 + 2, none⟩ = some (.int .i64 z.items) ∧ w.cell? ⟨b, off + i * 5 + 3, none⟩ = some (.int .i64 z.log) ∧ w.cell? ⟨b, off + i * 5 + 4, none⟩ = some (.int .i64 z.count) := by
  obtain ⟨p, c, rfl, _, _, hc⟩ := h
  obtain ⟨b, off, rfl, hb, h0⟩ := hc i z hz
  exact ⟨b, off, c, rfl, hb, h0 0 (by decide), h0 1 (by decide), h0 2 (by decide), h0 3 (by decide), h0 4 (by decide)⟩
/-- an answer behind a script -/
theorem ans_at {A : List EM.Act} {X : List EM.Ans} {i : Nat} {z : EM.Ans} (h : X[i]? = some z) : ((EM.runL (EM.start 8) A).2 ++ X)[A.length + i]? = some z := by
  rw [List.getElem?_append_right (by rw [EM.runL_len]; omega), EM.runL_len, Nat.add_sub_cancel_left]
  exact h
/-- reads, what is needed of it -/
def ReadsRet (l : List EM.Act) (w : World) (e : Ending) (w' : World) : Prop := ∃ v, e = .returned (.tuple #[v, .bool true]) ∧ StrsAt w' v (reads8 l) ∧ Below w.heap.size w w'
theorem reads_at (u : Value) (l : List EM.Act) (hl : l.length ≤ 300) (hok : ∀ a ∈ l, ActOk a) (w : World) (hu : ActsAt w u l) : Calls Tryz.prog 26 #[u] w (ReadsRet l w) := by
  refine (reads_any u l hl hok w hu).mono ?_
  rintro e w' ⟨v, rfl, ho⟩
  exact ⟨v, rfl, ho.ints (by rw [rds_len, (inv8 l).now.2]; decide), ho.below⟩
/-- run, what is needed of it -/
def RunsRet (l : List EM.Act) (w : World) (e : Ending) (w' : World) : Prop :=
  ∃ v x y, e = .returned (.tuple #[v, .agg #[x, y], .int .i64 0]) ∧ RowsAt ansC 5 w' v (EM.runL (EM.start 8) l).2 ∧ VolTy w' x y (EM.runL (EM.start 8) l).1.now ∧ Below w.heap.size w w'
theorem run_at (u : Value) (l : List EM.Act) (hl : l.length ≤ 300) (hok : ∀ a ∈ l, ActOk a) (w : World) (hu : ActsAt w u l) : Calls Tryz.prog 21 #[u] w (RunsRet l w) := by
  refine (run_any u l hl hok w hu).mono ?_
  rintro e w' ⟨v, x, y, rfl, ho, hv⟩
  exact ⟨v, x, y, rfl, ho.rows ansE (by rw [EM.runL_len]; omega), hv, ho.below⟩
/-- a crash that keeps all -/
theorem all_reads (A : List EM.Act) : reads8 (A ++ [EM.crash 4000]) = reads8 A := by
  unfold reads8
  rw [run_append]
  exact congrArg rds (EM.crash_all (inv8 A) (k := 4000) (by omega)).1
theorem all_answer (A : List EM.Act) : ∃ z : EM.Ans, (EM.runL (EM.start 8) (A ++ [EM.crash 4000, EM.act 4])).2[A.length + 1]? = some z ∧ z.code = 7 := by
  rw [run_append]
  exact ⟨_, ans_at (i := 1) rfl, (EM.crash_all (inv8 A) (k := 4000) (by omega)).2⟩
/-- an abort, a flush, a crash -/
theorem flushed_reads (A : List EM.Act) {k : Int} (hk : 0 ≤ k) : reads8 (A ++ [EM.act 5, EM.act 6] ++ [EM.crash k]) = reads8 (A ++ [EM.act 5, EM.act 6]) := by
  rw [List.append_assoc]
  unfold reads8
  rw [run_append, run_append]
  exact congrArg rds (EM.flushed _ hk)
/-- a mark, a question, a crash -/
theorem marked_reads (A : List EM.Act) {k : Int} (hk : 0 ≤ k) : reads8 (A ++ [EM.act 8, EM.act 9, EM.crash k]) = reads8 A ∧
    ∃ y z : EM.Ans, (EM.runL (EM.start 8) (A ++ [EM.act 8, EM.act 9, EM.crash k])).2[A.length + 1]? = some y ∧ (EM.runL (EM.start 8) (A ++ [EM.act 8, EM.act 9, EM.crash k])).2[A.length + 2]? = some z ∧ y.log = 0 ∧ z.count = 0 := by
  obtain ⟨h1, x, y, z, h2, h3, h4⟩ := EM.marked (EM.runL (EM.start 8) A).1 hk
  refine ⟨?_, y, z, ?_, ?_, h3, h4⟩
  · unfold reads8
    rw [run_append]
    exact congrArg rds h1
  · rw [run_append, h2]
    exact ans_at (i := 1) rfl
  · rw [run_append, h2]
    exact ans_at (i := 2) rfl
/-- a question: the number of items -/
theorem stat_items (A : List EM.Act) : ∃ z : EM.Ans, (EM.runL (EM.start 8) (A ++ [EM.act 9])).2[A.length]? = some z ∧ z.items = ((EM.runL (EM.start 8) (A ++ [EM.act 9])).1.now.items.length : Int) := by
  rw [run_append]
  exact ⟨_, ans_at (i := 0) rfl, rfl⟩
end Go.Proofs.YthjaanhkmfiajacGreatDoor
