/- The plain mathematics of items, volumes, writes, logs and engines, and rows that a call owns: texts merged into one. No condition but those in the statements. -/
import Derived.Test.YthjaanhkmfiajacRows
import Derived.Test.YthjaanhkmfiajacPure
import Derived.Deep.QuietTactic
import Derived.BigQuiet
import Derived.IntWalk
import Derived.Lib.Hide
import Derived.Outline
import Derived.StillTailTactics
import Derived.Deep.RegionWith
/- The document's In, itemAt, ItemsMay, GotOf over items: what they return. No condition. -/
namespace Go.Proofs.Ythjaanhkmfiajac
open Go.RowKit

def inB (n low high : Int) : Bool := decide (low ≤ n ∧ n ≤ high)

theorem In_any (n low high : Int) (w : World) :
    Calls Try.prog 26 #[.int .i64 n, .int .i64 low, .int .i64 high] w fun e w' => e = .returned (.bool (inB n low high)) ∧ w = w' := by
  by_cases h1 : low ≤ n <;> by_cases h2 : n ≤ high
  all_goals
    have e : inB n low high = decide (low ≤ n ∧ n ≤ high) := rfl
    have E : Hid (inB n low high = decide (low ≤ n ∧ n ≤ high)) := e
    clear e
    go_enter Try.func26, Try.ntmps26
    go_wp2
    go_ret
    refine ⟨?_, rfl⟩
    rw [E.out]
    simp [h1, h2]

set_option maxRecDepth 100000 in
theorem itemAt_any (v : Value) (L : List It) (id : Int) (w : World) (h : ItemsAt w v L) :
    Calls Try.prog 43 #[v, .int .i64 id] w fun e w' => e = .returned (.int .i64 (posInt L id)) ∧ w = w' := by
  obtain ⟨p, cap, rfl, hl, _, hc⟩ := h
  have HC := Lib.hid hc
  clear hc
  go_enter Try.func43, Try.ntmps43
  go_wp2
  go_loop [5] (fun i => ∃ k : Nat, k ≤ L.length ∧ i = .int .i64 k ∧ ∀ (j : Nat) (y : It), j < k → L[j]? = some y → y.id ≠ id) (fun i => L.length - (intOf i).toNat)
  case atStart => exact ⟨0, Nat.zero_le _, rfl, fun j y hj => absurd hj (by omega)⟩
  case round =>
    obtain ⟨k, hk, rfl, hall⟩ := hrel
    have HA := Lib.hid hall
    clear hall
    by_cases hlt : k < L.length
    · obtain ⟨x, hx⟩ : ∃ x, L[k]? = some x := ⟨L[k], List.getElem?_eq_getElem hlt⟩
      obtain ⟨b, off, rfl, hb, c0, c1, c2⟩ := HC.out k x hx
      have HX := Lib.hid hx
      clear hx c1 c2
      by_cases hid : x.id = id
      · have ht : (x.id == id) = true := by simpa using hid
        have hp : posInt L id = k := by unfold posInt; rw [pos_at HX.out hid HA.out]
        have HP := Lib.hid hp
        clear hid hp
        go_wp2
        go_ret
        exact ⟨ret_int HP.out.symm, rfl⟩
      · have ht : (x.id == id) = false := by simpa using hid
        have HN : Hid (x.id ≠ id) := hid
        clear hid
        go_wp2
        go_round
        case rel => exact ⟨k + 1, by omega, by go_num, seen_more HA.out HX.out HN.out⟩
        case measure => simp [intOf]; omega
    · have hp : posInt L id = -1 := by
        unfold posInt
        rw [pos_none (fun j y hj => HA.out j y (by have := (List.getElem?_eq_some_iff.1 hj).1; omega) hj)]
      have HP := Lib.hid hp
      clear hp
      go_wp2
      go_ret
      exact ⟨ret_int HP.out.symm, rfl⟩

set_option maxRecDepth 100000 in
set_option maxHeartbeats 1000000 in
theorem ItemsMay_any (v : Value) (L : List It) (w : World) (h : ItemsAt w v L) :
    Calls Try.prog 65 #[v] w fun e w' => e = .returned (.bool (mayB L)) ∧ Below w.heap.size w w' := by
  obtain ⟨p, cap, rfl, hl, _, hc⟩ := h
  have HC := Lib.hid hc
  clear hc
  go_enter Try.func65, Try.ntmps65
  go_wp2
  go_loopw [3] (fun i wr => ∃ k : Nat, k ≤ L.length ∧ i = .int .i64 k ∧ MayA L k ∧ MayB L k ∧ Below w.heap.size w wr) (fun i _ => L.length - (intOf i).toNat)
  case atStart => exact ⟨0, Nat.zero_le _, rfl, fun j y hj => absurd hj (by omega), fun i j _ _ _ hj => absurd hj (by omega), Below.refl _ _⟩
  case round =>
    obtain ⟨k, hk, rfl, hA, hB, hb⟩ := hrel
    have HA := Lib.hid hA
    have HB := Lib.hid hB
    clear hA hB
    by_cases hlt : k < L.length
    · obtain ⟨x, hx⟩ : ∃ x, L[k]? = some x := ⟨L[k], List.getElem?_eq_getElem hlt⟩
      obtain ⟨b, off, rfl, hbl, c0, c1, c2⟩ := HC.out k x hx
      have C0 := Lib.hid c0
      have C1 := Lib.hid c1
      replace c0 := (hb.cell (p := ⟨b, _, none⟩) hbl).trans c0
      replace c1 := (hb.cell (p := ⟨b, _, none⟩) hbl).trans c1
      replace c2 := (hb.cell (p := ⟨b, _, none⟩) hbl).trans c2
      have HX := Lib.hid hx
      clear hx
      by_cases hok : okB x = true
      · have hok' := hok
        simp only [okB, Bool.and_eq_true] at hok'
        obtain ⟨⟨h1, h2⟩, h3⟩ := hok'
        have h2' : ¬ 48 < x.data.size := by simpa using h2
        have HOK := Lib.hid hok
        have i1 : inB x.id 0 23 = true := h1
        have i3 : inB x.refs 1 32 = true := h3
        have H1 := Lib.hid i1
        have H3 := Lib.hid i3
        clear hok h1 h2 h3 i1 i3
        go_wp2_with (first
          | (go_at_call 26; refine (In_any _ _ _ _).mono ?_; rw [H1.out]; rintro e w1 ⟨rfl, rfl⟩)
          | (go_at_call 26; refine (In_any _ _ _ _).mono ?_; rw [H3.out]; rintro e w1 ⟨rfl, rfl⟩))
        go_loopw [4] (fun i wr => ∃ m : Nat, m ≤ k ∧ i = .int .i64 m ∧ MayC L m x ∧ Below w.heap.size w wr) (fun i _ => k - (intOf i).toNat)
        case atStart => exact ⟨0, Nat.zero_le _, rfl, fun i _ hi => absurd hi (by omega), hb⟩
        case round =>
          clear c0 c1 c2
          obtain ⟨m, hm, rfl, hC, hb2⟩ := hrel
          have HCC := Lib.hid hC
          clear hC
          have c0 := (hb2.cell (p := ⟨b, _, none⟩) hbl).trans C0.out
          have c1 := (hb2.cell (p := ⟨b, _, none⟩) hbl).trans C1.out
          by_cases hmk : m < k
          · have hml : m < L.length := by omega
            obtain ⟨y, hy⟩ : ∃ y, L[m]? = some y := ⟨L[m], List.getElem?_eq_getElem hml⟩
            obtain ⟨b', off', hp', _, d0, d1, _⟩ := HC.out m y hy
            cases hp'
            replace d0 := (hb2.cell (p := ⟨b, _, none⟩) hbl).trans d0
            replace d1 := (hb2.cell (p := ⟨b, _, none⟩) hbl).trans d1
            have HY := Lib.hid hy
            clear hy
            by_cases hid : x.id ≤ y.id
            · have hr := may_pair HX.out HY.out hmk (fun h => by have := h.1; omega)
              have HR := Lib.hid hr
              have hd : decide (x.id ≤ y.id) = true := by simpa using hid
              clear hr hid
              go_wp2
              go_quiet (fail)
              go_wp2
              go_ret
              exact ⟨ret_bool HR.out.symm, below_dr hb2 _⟩
            · have hd : decide (x.id ≤ y.id) = false := by simpa using hid
              by_cases hda : y.data = x.data
              · have hr := may_pair HX.out HY.out hmk (fun h => h.2 hda)
                have HR := Lib.hid hr
                have he : (y.data.toList == x.data.toList) = true := by rw [bytes_eq]; simpa using hda
                clear hr hid hda
                go_wp2
                go_quiet (fail)
                go_wp2
                go_ret
                exact ⟨ret_bool HR.out.symm, below_dr hb2 _⟩
              · have he : (y.data.toList == x.data.toList) = false := by rw [bytes_eq]; simpa using hda
                have HD : Hid (Ahead y x) := ⟨by omega, hda⟩
                clear hid hda
                go_wp2
                go_quiet (fail)
                go_wp2
                go_roundw
                case rel => exact ⟨m + 1, by omega, by go_num, MayC.more HCC.out HY.out HD.out, below_dr hb2 _⟩
                case measure => simp [intOf]; omega
          · have hmk' : m = k := by omega
            have HMK := Lib.hid hmk'
            clear hmk'
            go_wp2
            go_roundw
            case rel => exact ⟨k + 1, by omega, by go_num, MayA.more HA.out HX.out HOK.out, MayB.more HB.out HX.out (HMK.out ▸ HCC.out), hb2⟩
            case measure => simp [intOf]; omega
      · have hr := may_item HX.out (by simpa using hok)
        have HR := Lib.hid hr
        clear hr
        cases h1 : inB x.id 0 23 with
        | false =>
          have H1 := Lib.hid h1
          clear h1 hok
          go_wp2_with (go_at_call 26; refine (In_any _ _ _ _).mono ?_; rw [H1.out]; rintro e w1 ⟨rfl, rfl⟩)
          go_ret
          exact ⟨ret_bool HR.out.symm, hb⟩
        | true =>
          by_cases h2 : 48 < x.data.size
          · have H1 := Lib.hid h1
            clear h1 hok
            go_wp2_with (go_at_call 26; refine (In_any _ _ _ _).mono ?_; rw [H1.out]; rintro e w1 ⟨rfl, rfl⟩)
            go_ret
            exact ⟨ret_bool HR.out.symm, hb⟩
          · have h3 : inB x.refs 1 32 = false := by
              cases h3 : inB x.refs 1 32 with
              | false => rfl
              | true => exact absurd (by unfold okB; unfold inB at h1 h3; rw [h1, h3]; simp; omega) hok
            have H1 := Lib.hid h1
            have H3 := Lib.hid h3
            clear h1 h3 hok
            go_wp2_with (first
              | (go_at_call 26; refine (In_any _ _ _ _).mono ?_; rw [H1.out]; rintro e w1 ⟨rfl, rfl⟩)
              | (go_at_call 26; refine (In_any _ _ _ _).mono ?_; rw [H3.out]; rintro e w1 ⟨rfl, rfl⟩))
            go_ret
            exact ⟨ret_bool HR.out.symm, hb⟩
    · have hm : mayB L = decide (L.length ≤ 24) := may_all (fun j x hj hx => HA.out j x (by omega) hx) (fun i j y x hij hj hy hx => HB.out i j y x hij (by omega) hy hx)
      have HM := Lib.hid hm
      clear hm
      go_wp2
      go_ret
      exact ⟨ret_bool (by rw [HM.out]; simp; omega), hb⟩
end Go.Proofs.Ythjaanhkmfiajac

/- The statements' own sameItems: true on two slices that hold the same items. No condition. -/
namespace Go.Proofs.Ythjaanhkmfiajac
open Go.RowKit

set_option maxRecDepth 100000 in
theorem sameItems_any (v u : Value) (L : List It) (w : World) (hv : ItemsAt w v L) (hu : ItemsAt w u L) :
    Calls Try.prog 15 #[v, u] w fun e w' => e = .returned (.bool true) ∧ Below w.heap.size w w' := by
  obtain ⟨p, cap, rfl, hl, _, hc⟩ := hv
  obtain ⟨p', cap', rfl, _, _, hc'⟩ := hu
  have HC := Lib.hid hc
  have HC' := Lib.hid hc'
  clear hc hc'
  go_enter Try.func15, Try.ntmps15
  go_wp2
  go_loopw [5] (fun i wr => ∃ k : Nat, k ≤ L.length ∧ i = .int .i64 k ∧ Below w.heap.size w wr) (fun i _ => L.length - (intOf i).toNat)
  case atStart => exact ⟨0, Nat.zero_le _, rfl, Below.refl _ _⟩
  case round =>
    obtain ⟨k, hk, rfl, hb⟩ := hrel
    by_cases hlt : k < L.length
    · obtain ⟨x, hx⟩ : ∃ x, L[k]? = some x := ⟨L[k], List.getElem?_eq_getElem hlt⟩
      obtain ⟨b, off, rfl, hbl, c0, c1, c2⟩ := HC.out k x hx
      obtain ⟨b', off', rfl, hbl', d0, d1, d2⟩ := HC'.out k x hx
      replace c0 := (hb.cell (p := ⟨b, _, none⟩) hbl).trans c0
      replace c1 := (hb.cell (p := ⟨b, _, none⟩) hbl).trans c1
      replace c2 := (hb.cell (p := ⟨b, _, none⟩) hbl).trans c2
      replace d0 := (hb.cell (p := ⟨b', _, none⟩) hbl').trans d0
      replace d1 := (hb.cell (p := ⟨b', _, none⟩) hbl').trans d1
      replace d2 := (hb.cell (p := ⟨b', _, none⟩) hbl').trans d2
      clear hx
      go_wp2
      go_quiet (fail)
      go_wp2
      all_goals
        go_roundw
        case rel => exact ⟨k + 1, by omega, by go_num, below_dr hb _⟩
        case measure => simp [intOf]; omega
    · go_wp2
      go_ret
      exact ⟨rfl, hb⟩
end Go.Proofs.Ythjaanhkmfiajac

/- The document's GotOf: what it returns. No condition. -/
namespace Go.Proofs.Ythjaanhkmfiajac
open Go.RowKit

set_option maxRecDepth 100000 in
theorem GotOf_any (v : Value) (L : List It) (id : Int) (w : World) (h : ItemsAt w v L) :
    Calls Try.prog 66 #[v, .int .i64 id] w fun e w' => e = .returned (.tuple #[(got L id).1.val, .int .i64 (got L id).2]) ∧ Below w.heap.size w w' := by
  have h' := h
  obtain ⟨p, cap, rfl, hl, _, hc⟩ := h'
  have HI := Lib.hid h
  have HC := Lib.hid hc
  clear hc h
  cases hm : mayB L with
  | false =>
    have hg := got_bad (id := id) hm
    have HG := Lib.hid hg
    have HM := Lib.hid hm
    clear hg hm
    go_enter Try.func66, Try.ntmps66
    go_wp2_with (go_at_call 65; refine (ItemsMay_any _ L _ (HI.out.keep ((Below.refl _ _).alloc (Nat.le_refl _) _))).mono ?_; rw [HM.out]; rintro e w1 ⟨rfl, hb1⟩; obtain ⟨q0, q1, q2, f0, f1, f2, hz⟩ := blk3 hb1)
    refine bodyPost_ret (v := .tuple #[.agg #[.int .i64 0, .string ⟨#[]⟩, .int .i64 0], .int .i64 7]) (by simp [results, Try.results66, go_sem, q0, q1, q2]) rfl ⟨ret_got HG.out, below_set3 (below_box hb1) _ _ _⟩
  | true =>
    have HM := Lib.hid hm
    cases hp : pos L id with
    | none =>
      have hg := got_none hm hp
      have HG := Lib.hid hg
      have HP := Lib.hid (posInt_none hp)
      clear hg hm hp
      go_enter Try.func66, Try.ntmps66
      go_wp2_with (first
        | (go_at_call 65; refine (ItemsMay_any _ L _ (HI.out.keep ((Below.refl _ _).alloc (Nat.le_refl _) _))).mono ?_; rw [HM.out]; rintro e w1 ⟨rfl, hb1⟩; obtain ⟨q0, q1, q2, f0, f1, f2, hz⟩ := blk3 hb1)
        | (go_at_call 43; refine (itemAt_any _ L id _ (HI.out.keep (below_box hb1))).mono ?_; rw [HP.out]; rintro e w2 ⟨rfl, rfl⟩))
      refine bodyPost_ret (v := .tuple #[.agg #[.int .i64 0, .string ⟨#[]⟩, .int .i64 0], .int .i64 6]) (by simp [results, Try.results66, go_sem, q0, q1, q2]) rfl ⟨ret_got HG.out, below_set3 (below_box hb1) _ _ _⟩
    | some k =>
      obtain ⟨x, hx, hxid⟩ := pos_lt hp
      have hk := (List.getElem?_eq_some_iff.1 hx).1
      obtain ⟨b, off, rfl, hbl, c0, c1, c2⟩ := HC.out k x hx
      have hg := got_some hm hp hx
      have HG := Lib.hid hg
      have HP := Lib.hid (posInt_some hp)
      have HX := Lib.hid hx
      have C0 := Lib.hid c0
      have C1 := Lib.hid c1
      have C2 := Lib.hid c2
      clear hg hm hp hx hxid c0 c1 c2 HC
      go_enter Try.func66, Try.ntmps66
      go_wp2_with (first
        | (go_at_call 65; refine (ItemsMay_any _ L _ (HI.out.keep ((Below.refl _ _).alloc (Nat.le_refl _) _))).mono ?_; rw [HM.out]; rintro e w1 ⟨rfl, hb1⟩; obtain ⟨q0, q1, q2, f0, f1, f2, hz⟩ := blk3 hb1; have c0 := ((below_box hb1).cell (p := ⟨b, _, none⟩) hbl).trans C0.out; have c1 := ((below_box hb1).cell (p := ⟨b, _, none⟩) hbl).trans C1.out; have c2 := ((below_box hb1).cell (p := ⟨b, _, none⟩) hbl).trans C2.out)
        | (go_at_call 43; refine (itemAt_any _ L id _ (HI.out.keep (below_box hb1))).mono ?_; rw [HP.out]; rintro e w2 ⟨rfl, rfl⟩))
      refine bodyPost_ret (v := .tuple #[.agg #[.int .i64 x.id, .string x.data, .int .i64 x.refs], .int .i64 0]) (by simp [results, Try.results66, go_sem, q0, q1, q2]) rfl ⟨ret_got HG.out, below_set3 (below_box hb1) _ _ _⟩

theorem GotOf_at {L : List It} {id n : Int} {x : It} (hg : got L id = (x, n)) (v : Value) (w : World) (h : ItemsAt w v L) :
    Calls Try.prog 66 #[v, .int .i64 id] w fun e w' => e = .returned (.tuple #[.agg #[.int .i64 x.id, .string x.data, .int .i64 x.refs], .int .i64 n]) ∧ Below w.heap.size w w' := by
  have := GotOf_any v L id w h
  rw [hg] at this
  exact this

theorem GotOf_err {L : List It} {id n : Int} (hg : got L id = (It.zero, n)) (v : Value) (w : World) (h : ItemsAt w v L) :
    Calls Try.prog 66 #[v, .int .i64 id] w fun e w' => e = .returned (.tuple #[.agg #[.int .i64 0, .string ⟨#[]⟩, .int .i64 0], .int .i64 n]) ∧ Below w.heap.size w w' :=
  GotOf_at hg v w h
end Go.Proofs.Ythjaanhkmfiajac

/- The document's UsedOf and DroppedOf: what they return. Condition: none but that the slice is one of items. -/
namespace Go.Proofs.Ythjaanhkmfiajac
open Go.RowKit

set_option maxRecDepth 100000 in
set_option maxHeartbeats 1000000 in
theorem UsedOf_any (v : Value) (L : List It) (id : Int) (w : World) (h : ItemsAt w v L) :
    Calls Try.prog 67 #[v, .int .i64 id] w (RetItems (used L id).1 (used L id).2 w) := by
  obtain ⟨i0, hi, hz0, hz1, hz2⟩ := info_parts Try.infoItem
  have h' := h
  obtain ⟨p, cap, rfl, hl, _, hc⟩ := h'
  have HI := Lib.hid h
  clear hc h
  rcases got_cases L id with ⟨n, hn, hg⟩ | ⟨k, x, hx, hp, hm, hg⟩
  · have hu : used L id = ([], n) := by unfold used; rw [hg, if_pos (by simpa using hn)]
    have HU := Lib.hid hu
    have HG := Lib.hid hg
    rw [hu]
    clear hu hg
    go_enter Try.func67, Try.ntmps67
    go_wp2_with (go_at_call 66; refine (GotOf_err HG.out _ _ HI.out).mono ?_; rintro e w1 ⟨rfl, hb1⟩)
    go_ret2
    exact ⟨_, rfl, OwnI.nil (below_alloc hb1 _) (below_alloc hb1 _).size⟩
  · by_cases hr : 32 ≤ x.refs
    · have hu : used L id = ([], 1) := by unfold used; rw [hg, if_neg (by simp), if_pos hr]
      have HG := Lib.hid hg
      rw [hu]
      clear hu hg hx hp hm
      go_enter Try.func67, Try.ntmps67
      go_wp2_with (go_at_call 66; refine (GotOf_at HG.out _ _ HI.out).mono ?_; rintro e w1 ⟨rfl, hb1⟩)
      go_ret2
      exact ⟨_, rfl, OwnI.nil (below_alloc hb1 _) (below_alloc hb1 _).size⟩
    · have hu : used L id = (L.set k { x with refs := x.refs + 1 }, 0) := by unfold used; rw [hg, if_neg (by simp), if_neg hr, hp]
      have HG := Lib.hid hg
      have HP := Lib.hid (posInt_some hp)
      have hlen := may_len hm
      have hk := (List.getElem?_eq_some_iff.1 hx).1
      have hok := may_ok hm hx
      have hr1 : 1 ≤ x.refs := hok.2.2.2.1
      have HX := Lib.hid hx
      rw [hu]
      clear hu hg hx hp hm hok
      go_enter Try.func67, Try.ntmps67
      go_wp2_with (first
        | (go_at_call 66; refine (GotOf_at HG.out _ _ HI.out).mono ?_; rintro e w1 ⟨rfl, hb1⟩)
        | (at_builtin; refine wpList_own_items rfl _ _ 24 rfl (w1.alloc _).heap.size 55 i0 _ Try.underlying24 hi hz0 rfl hz1 hz2 (.slice none 0 0) [] rfl _ L _ (OwnI.nil (Below.refl _ _) (Nat.le_refl _)) (HI.out.keep (below_alloc hb1 _)) rfl (by simp; omega) ?_; intro v2 w2 hown2))
      rw [List.nil_append] at hown2
      obtain ⟨q0, q1, q2, f0, f1, f2, hz⟩ := blk3 hown2.below
      obtain ⟨g, cap2, rfl, hg1, hg2, hcap⟩ := hown2.shape (by omega)
      obtain ⟨d0, d1, d2, df, _⟩ := hown2.cell HX.out
      have hitems := HI.out.keep (below_then (below_alloc hb1 _) hown2.below).drew
      have hcall : Calls Try.prog 43 #[.slice p L.length cap, .int .i64 id] w2.drew (fun e w'' => e = .returned (.int .i64 (k : Int)) ∧ w'' = w2.drew) := (itemAt_any _ L id _ hitems).mono fun e w' he => ⟨by rw [← HP.out]; exact he.1, he.2.symm⟩
      have hw := IntWalk.i64_in (x.refs + 1) (by omega)
      refine wp_region_still_tail 9 (by kernel_rfl) (by kernel_rfl) ?_
      simp only [List.take_succ_cons, List.take_zero, List.drop_succ_cons, List.drop_zero]
      still_step
      still_step
      still_step
      still_call hcall
      still_step
      still_step
      still_step
      still_step
      still_step
      refine wpStill_nil ?_
      have hfin := ((hown2.setRefs HX.out (x.refs + 1)).lower (by simp; have := hb1.size; omega) (below_alloc hb1 _)).drew
      clear hw hcall hitems hown2
      go_wp2
      go_ret2
      exact ⟨_, rfl, hfin⟩

set_option maxRecDepth 100000 in
set_option maxHeartbeats 1000000 in
theorem DroppedOf_any (v : Value) (L : List It) (id : Int) (w : World) (h : ItemsAt w v L) :
    Calls Try.prog 45 #[v, .int .i64 id] w (RetItems (dropped L id).1 (dropped L id).2 w) := by
  obtain ⟨i0, hi, hz0, hz1, hz2⟩ := info_parts Try.infoItem
  have h' := h
  obtain ⟨p, cap, rfl, hl, _, hc⟩ := h'
  have HI := Lib.hid h
  have HC := Lib.hid hc
  clear hc h
  rcases got_cases L id with ⟨n, hn, hg⟩ | ⟨k0, x0, hx0, hp, hm, hg⟩
  · have hu : dropped L id = ([], n) := by unfold dropped; rw [hg, if_pos (by simpa using hn)]
    have HG := Lib.hid hg
    rw [hu]
    clear hu hg
    go_enter Try.func45, Try.ntmps45
    go_wp2_with (go_at_call 66; refine (GotOf_err HG.out _ _ HI.out).mono ?_; rintro e w1 ⟨rfl, hb1⟩)
    go_ret2
    exact ⟨_, rfl, OwnI.nil (below_alloc hb1 _) (below_alloc hb1 _).size⟩
  · have hu : dropped L id = (L.filterMap (dropOne id), 0) := by unfold dropped; rw [hg, if_neg (by simp)]
    have HG := Lib.hid hg
    have hlen := may_len hm
    have HM := Lib.hid hm
    rw [hu]
    clear hu hg hx0 hp hm
    go_enter Try.func45, Try.ntmps45
    go_wp2_with (go_at_call 66; refine (GotOf_at HG.out _ _ HI.out).mono ?_; rintro e w1 ⟨rfl, hb1⟩)
    go_loopw [8, 9] (fun v i wr => ∃ k : Nat, k ≤ L.length ∧ i = .int .i64 k ∧ OwnI w.heap.size 55 v ((L.take k).filterMap (dropOne id)) w wr) (fun _ i _ => L.length - (intOf i).toNat)
    case atStart => exact ⟨0, Nat.zero_le _, rfl, OwnI.nil (below_alloc hb1 _) (below_alloc hb1 _).size⟩
    case round =>
      obtain ⟨k, hk, rfl, hown⟩ := hrel
      by_cases hlt : k < L.length
      · obtain ⟨x, hx⟩ : ∃ x, L[k]? = some x := ⟨L[k], List.getElem?_eq_getElem hlt⟩
        obtain ⟨b, off, rfl, hbl, c0, c1, c2⟩ := HC.out k x hx
        have hok := may_ok HM.out hx
        have hr1 : 1 ≤ x.refs := hok.2.2.2.1
        have hr2 : x.refs ≤ 32 := hok.2.2.2.2
        replace c0 := (hown.below.cell (p := ⟨b, _, none⟩) hbl).trans c0
        replace c1 := (hown.below.cell (p := ⟨b, _, none⟩) hbl).trans c1
        replace c2 := (hown.below.cell (p := ⟨b, _, none⟩) hbl).trans c2
        have hlen2 := Nat.le_trans (fm_len (dropOne id) (L.take k)) (List.length_take_le k L)
        have hsn : (L.take (k + 1)).filterMap (dropOne id) = (L.take k).filterMap (dropOne id) ++ (dropOne id x).toList := by
          rw [take_snoc hx, List.filterMap_append]; cases hd : dropOne id x <;> simp [hd]
        have HSN := Lib.hid hsn
        clear hx hok hsn
        by_cases hid : x.id = id
        · have ht : (x.id == id) = true := by simpa using hid
          by_cases hr : 0 < x.refs - 1
          · have hd : dropOne id x = some { x with refs := x.refs - 1 } := by unfold dropOne; rw [if_pos hid, if_pos hr]
            have HD := Lib.hid hd
            clear hid hd
            go_wp2_with (at_builtin; refine wpList_own_item rfl (.tmp 41) (.tmp 43) 24 rfl w.heap.size 55 i0 _ Try.underlying24 hi hz0 rfl hz1 hz2 _ _ rfl w _ { x with refs := x.refs - 1 } (hown.alloc _) _ rfl (by simp) (by omega) ?_; intro v2 w2 hown2)
            go_roundw
            case rel => exact ⟨k + 1, by omega, by go_num, hown2.cast (by rw [HSN.out, HD.out]; rfl)⟩
            case measure => simp [intOf]; omega
          · have hd : dropOne id x = none := by unfold dropOne; rw [if_pos hid, if_neg hr]
            have HD := Lib.hid hd
            clear hid hd
            go_wp2
            go_roundw
            case rel => exact ⟨k + 1, by omega, by go_num, (hown.alloc _).cast (by rw [HSN.out, HD.out]; simp)⟩
            case measure => simp [intOf]; omega
        · have ht : (x.id == id) = false := by simpa using hid
          have hd : dropOne id x = some x := by unfold dropOne; rw [if_neg hid, if_pos (by omega)]
          have HD := Lib.hid hd
          clear hid hd
          go_wp2_with (at_builtin; refine wpList_own_item rfl (.tmp 41) (.tmp 43) 24 rfl w.heap.size 55 i0 _ Try.underlying24 hi hz0 rfl hz1 hz2 _ _ rfl w _ x (hown.alloc _) _ rfl (by simp) (by omega) ?_; intro v2 w2 hown2)
          go_roundw
          case rel => exact ⟨k + 1, by omega, by go_num, hown2.cast (by rw [HSN.out, HD.out]; rfl)⟩
          case measure => simp [intOf]; omega
      · have hkl : k = L.length := by omega
        have HK := Lib.hid hkl
        clear hkl
        go_wp2
        go_ret2
        exact ⟨_, rfl, hown.cast (by rw [HK.out, List.take_length])⟩
end Go.Proofs.Ythjaanhkmfiajac

/- The document's KeptOf: what it returns. Condition: none but that the slice is one of items. -/
namespace Go.Proofs.Ythjaanhkmfiajac
open Go.RowKit

set_option maxRecDepth 100000 in
set_option maxHeartbeats 2000000 in
theorem KeptOf_any (v : Value) (L : List It) (d : ByteArray) (w : World) (h : ItemsAt w v L) :
    Calls Try.prog 46 #[v, .string d] w (RetKept (kept L d).1 (kept L d).2.1 (kept L d).2.2 w) := by
  obtain ⟨i0, hi, hz0, hz1, hz2⟩ := info_parts Try.infoItem
  have h' := h
  obtain ⟨p, cap, rfl, hl, _, hc⟩ := h'
  have HI := Lib.hid h
  have HC := Lib.hid hc
  clear hc h
  cases hm : mayB L with
  | false =>
    have hu : kept L d = ([], 0, 7) := by unfold kept; rw [if_pos hm]
    have HM := Lib.hid hm
    rw [hu]
    clear hu hm
    go_enter Try.func46, Try.ntmps46
    go_wp2_with (go_at_call 65; refine (ItemsMay_any _ L _ HI.out).mono ?_; rw [HM.out]; rintro e w1 ⟨rfl, hb1⟩)
    go_ret3
    exact ⟨_, rfl, OwnI.nil hb1 hb1.size⟩
  | true =>
    have HM := Lib.hid hm
    by_cases hd48 : 48 < d.size
    · have hu : kept L d = ([], 0, 1) := by unfold kept; rw [if_neg (by simp [hm]), if_pos hd48]
      rw [hu]
      clear hu hm
      go_enter Try.func46, Try.ntmps46
      go_wp2_with (go_at_call 65; refine (ItemsMay_any _ L _ HI.out).mono ?_; rw [HM.out]; rintro e w1 ⟨rfl, hb1⟩)
      go_ret3
      exact ⟨_, rfl, OwnI.nil hb1 hb1.size⟩
    · have hk0 : kept L d = match posData L d with
          | some k => if (used L (L[k]?.getD It.zero).id).2 ≠ 0 then ([], 0, (used L (L[k]?.getD It.zero).id).2) else ((used L (L[k]?.getD It.zero).id).1, (L[k]?.getD It.zero).id, 0)
          | none => if 23 < freeId L then ([], 0, 1)
            else (L.filter (fun x => decide (x.id < (freeId L : Int))) ++ [⟨(freeId L : Int), d, 1⟩] ++ L.filter (fun x => decide ((freeId L : Int) < x.id)), (freeId L : Int), 0) := by
        unfold kept; rw [if_neg (by simp [hm]), if_neg hd48]; rfl
      have hlen := may_len hm
      have HK0 := Lib.hid hk0
      obtain ⟨R, hR⟩ : ∃ R, R = kept L d := ⟨_, rfl⟩
      rw [← hR]
      have HR := Lib.hid hR
      clear hk0 hm hR
      go_enter Try.func46, Try.ntmps46
      go_wp2_with (go_at_call 65; refine (ItemsMay_any _ L _ HI.out).mono ?_; rw [HM.out]; rintro e w1 ⟨rfl, hb1⟩)
      go_loop [7] (fun i => ∃ k : Nat, k ≤ L.length ∧ i = .int .i64 k ∧ ∀ (j : Nat) (y : It), j < k → L[j]? = some y → y.data ≠ d) (fun i => L.length - (intOf i).toNat)
      case atStart => exact ⟨0, Nat.zero_le _, rfl, fun j y hj => absurd hj (by omega)⟩
      case round =>
        obtain ⟨k, hk, rfl, hall⟩ := hrel
        have HA := Lib.hid hall
        clear hall
        by_cases hlt : k < L.length
        · obtain ⟨x, hx⟩ : ∃ x, L[k]? = some x := ⟨L[k], List.getElem?_eq_getElem hlt⟩
          obtain ⟨b, off, rfl, hbl, c0, c1, c2⟩ := HC.out k x hx
          have C0 := Lib.hid c0
          replace c0 := (hb1.cell (p := ⟨b, _, none⟩) hbl).trans c0
          replace c1 := (hb1.cell (p := ⟨b, _, none⟩) hbl).trans c1
          have HX := Lib.hid hx
          clear hx c2
          by_cases hda : x.data = d
          · have he : (x.data.toList == d.toList) = true := by rw [bytes_eq]; simpa using hda
            have hpd := posData_at HX.out hda HA.out
            have HPD := Lib.hid hpd
            clear hda hpd
            have hk1 := HK0.out
            rw [HPD.out] at hk1
            simp only [HX.out, Option.getD_some] at hk1
            rw [← HR.out] at hk1
            by_cases hu0 : (used L x.id).2 = 0
            · rw [if_neg (by simpa using hu0)] at hk1
              have ht : ((used L x.id).2 != 0) = false := by simpa using hu0
              have HK1 := Lib.hid hk1
              clear hk1 hu0
              go_wp2_with (go_at_call 67; refine (UsedOf_any _ L x.id _ (HI.out.keep hb1)).mono ?_; rintro e w2 ⟨v2, rfl, hown2⟩)
              have d0 := (hown2.below.cell (p := ⟨b, _, none⟩) (Nat.lt_of_lt_of_le hbl hb1.size)).trans c0
              go_quiet (fail)
              go_wp2
              go_ret3
              rw [HK1.out]
              exact ⟨_, rfl, (hown2.lower hb1.size hb1).drewN _⟩
            · rw [if_pos hu0] at hk1
              have ht : ((used L x.id).2 != 0) = true := by simpa using hu0
              have HK1 := Lib.hid hk1
              clear hk1 hu0
              go_wp2_with (go_at_call 67; refine (UsedOf_any _ L x.id _ (HI.out.keep hb1)).mono ?_; rintro e w2 ⟨v2, rfl, hown2⟩)
              go_ret3
              rw [HK1.out]
              exact ⟨_, rfl, OwnI.nil (below_then hb1 hown2.below) (below_then hb1 hown2.below).size⟩
          · have he : (x.data.toList == d.toList) = false := by rw [bytes_eq]; simpa using hda
            have HN : Hid (x.data ≠ d) := hda
            clear hda
            go_wp2
            go_round
            case rel => exact ⟨k + 1, by omega, by go_num, data_more HA.out HX.out HN.out⟩
            case measure => simp [intOf]; omega
        · have hpd := posData_none (L := L) (d := d) (fun j y hj => HA.out j y (by have := (List.getElem?_eq_some_iff.1 hj).1; omega) hj)
          have hk1 := HK0.out
          rw [hpd] at hk1
          have HK1 := Lib.hid hk1
          clear hpd hk1
          go_wp2
          go_loop [10] (fun i => ∃ n : Nat, n ≤ 24 ∧ i = .int .i64 n ∧ ∀ j, j < n → ∃ k, pos L (j : Int) = some k) (fun i => 25 - (intOf i).toNat)
          case atStart => exact ⟨0, Nat.zero_le _, rfl, fun j hj => absurd hj (by omega)⟩
          case round =>
            obtain ⟨n, hn24, rfl, hused⟩ := hrel
            have HUS := Lib.hid hused
            clear hused
            cases hp : pos L (n : Int) with
            | some q =>
              obtain ⟨y, hy, hyid⟩ := pos_lt hp
              have hok := may_ok HM.out hy
              have hn23 : n < 24 := by omega
              have HPI := Lib.hid (posInt_some hp)
              have HP := Lib.hid hp
              clear hp hy hyid hok
              go_wp2_with (go_at_call 43; refine (itemAt_any _ L _ _ (HI.out.keep hb1)).mono ?_; rw [HPI.out]; rintro e w2 ⟨rfl, rfl⟩)
              go_round
              case rel => exact ⟨n + 1, by omega, by go_num, used_more HUS.out HP.out⟩
              case measure => simp [intOf]; omega
            | none =>
              have hf := free_at hn24 hp HUS.out
              have HF := Lib.hid hf
              have HPI := Lib.hid (posInt_none hp)
              clear hf hp
              by_cases hn23 : 23 < n
              · have hk2 := HK1.out
                rw [if_pos (by rw [HF.out]; exact hn23), ← HR.out] at hk2
                have HK2 := Lib.hid hk2
                clear hk2
                go_wp2_with (go_at_call 43; refine (itemAt_any _ L _ _ (HI.out.keep hb1)).mono ?_; rw [HPI.out]; rintro e w2 ⟨rfl, rfl⟩)
                go_ret3
                rw [HK2.out]
                exact ⟨_, rfl, OwnI.nil hb1 hb1.size⟩
              · have hk2 := HK1.out
                rw [if_neg (by rw [HF.out]; exact hn23), ← HR.out, HF.out] at hk2
                have HK2 := Lib.hid hk2
                clear hk2
                go_wp2_with (go_at_call 43; refine (itemAt_any _ L _ _ (HI.out.keep hb1)).mono ?_; rw [HPI.out]; rintro e w2 ⟨rfl, rfl⟩)
                go_loopw [11, 12] (fun v i wr => ∃ k : Nat, k ≤ L.length ∧ i = .int .i64 k ∧ OwnI w.heap.size 55 v ((L.take k).filter (fun x => decide (x.id < (n : Int)))) w wr) (fun _ i _ => L.length - (intOf i).toNat)
                case atStart => exact ⟨0, Nat.zero_le _, rfl, OwnI.nil hb1 hb1.size⟩
                case round =>
                  obtain ⟨k, hk, rfl, hown⟩ := hrel
                  by_cases hlt : k < L.length
                  · obtain ⟨x, hx⟩ : ∃ x, L[k]? = some x := ⟨L[k], List.getElem?_eq_getElem hlt⟩
                    obtain ⟨b, off, rfl, hbl, c0, c1, c2⟩ := HC.out k x hx
                    replace c0 := (hown.below.cell (p := ⟨b, _, none⟩) hbl).trans c0
                    replace c1 := (hown.below.cell (p := ⟨b, _, none⟩) hbl).trans c1
                    replace c2 := (hown.below.cell (p := ⟨b, _, none⟩) hbl).trans c2
                    have hlen2 := Nat.le_trans (List.length_filter_le (fun x : It => decide (x.id < (n : Int))) (L.take k)) (List.length_take_le k L)
                    by_cases hxn : x.id < (n : Int)
                    · have hsn : (L.take (k + 1)).filter (fun x => decide (x.id < (n : Int))) = (L.take k).filter (fun x => decide (x.id < (n : Int))) ++ [x] := by
                        rw [take_snoc hx, List.filter_append]; simp [hxn]
                      have HSN := Lib.hid hsn
                      clear hx hsn
                      go_wp2_with (at_builtin; refine wpList_own_item rfl (.tmp 73) (.tmp 78) 24 rfl w.heap.size 55 i0 _ Try.underlying24 hi hz0 rfl hz1 hz2 _ _ rfl w _ x hown _ rfl (by simp) (by omega) ?_; intro v2 w2 hown2)
                      go_roundw
                      case rel => exact ⟨k + 1, by omega, by go_num, hown2.cast HSN.out.symm⟩
                      case measure => simp [intOf]; omega
                    · have hsn : (L.take (k + 1)).filter (fun x => decide (x.id < (n : Int))) = (L.take k).filter (fun x => decide (x.id < (n : Int))) := by
                        rw [take_snoc hx, List.filter_append]; simp [hxn]
                      have HSN := Lib.hid hsn
                      clear hx hsn
                      go_wp2
                      go_roundw
                      case rel => exact ⟨k + 1, by omega, by go_num, hown.cast HSN.out.symm⟩
                      case measure => simp [intOf]; omega
                  · have hkl : k = L.length := by omega
                    have hlen2 := Nat.le_trans (List.length_filter_le (fun x : It => decide (x.id < (n : Int))) (L.take k)) (List.length_take_le k L)
                    have hown0 := hown.cast (l' := L.filter (fun x => decide (x.id < (n : Int)))) (by rw [hkl, List.take_length])
                    have hlen3 := List.length_filter_le (fun x : It => decide (x.id < (n : Int))) L
                    clear hkl hown
                    go_wp2_with (at_builtin; refine wpList_own_item rfl (.tmp 80) (.tmp 84) 24 rfl w.heap.size 55 i0 _ Try.underlying24 hi hz0 rfl hz1 hz2 _ _ rfl w _ ⟨(n : Int), d, 1⟩ hown0 _ rfl (by simp) (by omega) ?_; intro v2 w2 hown2)
                    clear hown0
                    go_loopw [11, 13] (fun v i wr => ∃ k : Nat, k ≤ L.length ∧ i = .int .i64 k ∧ OwnI w.heap.size 55 v (L.filter (fun x => decide (x.id < (n : Int))) ++ [⟨(n : Int), d, 1⟩] ++ (L.take k).filter (fun x => decide ((n : Int) < x.id))) w wr) (fun _ i _ => L.length - (intOf i).toNat)
                    case atStart => exact ⟨0, Nat.zero_le _, rfl, hown2.cast (by simp)⟩
                    case round =>
                      clear hown2
                      obtain ⟨k, hk, rfl, hown⟩ := hrel
                      have hlen4 : (L.filter (fun x : It => decide (x.id < (n : Int))) ++ [(⟨(n : Int), d, 1⟩ : It)] ++ (L.take k).filter (fun x : It => decide ((n : Int) < x.id))).length ≤ 100 := by
                        have := List.length_filter_le (fun x : It => decide ((n : Int) < x.id)) (L.take k)
                        have := List.length_take_le k L
                        simp only [List.length_append, List.length_singleton]; omega
                      by_cases hlt : k < L.length
                      · obtain ⟨x, hx⟩ : ∃ x, L[k]? = some x := ⟨L[k], List.getElem?_eq_getElem hlt⟩
                        obtain ⟨b, off, rfl, hbl, c0, c1, c2⟩ := HC.out k x hx
                        replace c0 := (hown.below.cell (p := ⟨b, _, none⟩) hbl).trans c0
                        replace c1 := (hown.below.cell (p := ⟨b, _, none⟩) hbl).trans c1
                        replace c2 := (hown.below.cell (p := ⟨b, _, none⟩) hbl).trans c2
                        by_cases hxn : (n : Int) < x.id
                        · have hsn : (L.take (k + 1)).filter (fun x => decide ((n : Int) < x.id)) = (L.take k).filter (fun x => decide ((n : Int) < x.id)) ++ [x] := by
                            rw [take_snoc hx, List.filter_append]; simp [hxn]
                          have HSN := Lib.hid hsn
                          clear hx hsn
                          go_wp2_with (at_builtin; refine wpList_own_item rfl (.tmp 99) (.tmp 104) 24 rfl w.heap.size 55 i0 _ Try.underlying24 hi hz0 rfl hz1 hz2 _ _ rfl w _ x hown _ rfl (by simp) (by omega) ?_; intro v2 w2 hown2)
                          go_roundw
                          case rel => exact ⟨k + 1, by omega, by go_num, hown2.cast (by rw [HSN.out, List.append_assoc])⟩
                          case measure => simp [intOf]; omega
                        · have hsn : (L.take (k + 1)).filter (fun x => decide ((n : Int) < x.id)) = (L.take k).filter (fun x => decide ((n : Int) < x.id)) := by
                            rw [take_snoc hx, List.filter_append]; simp [hxn]
                          have HSN := Lib.hid hsn
                          clear hx hsn
                          go_wp2
                          go_roundw
                          case rel => exact ⟨k + 1, by omega, by go_num, hown.cast (by rw [HSN.out])⟩
                          case measure => simp [intOf]; omega
                      · have hkl : k = L.length := by omega
                        have HK := Lib.hid hkl
                        clear hkl
                        go_wp2
                        go_ret3
                        rw [HK2.out]
                        exact ⟨_, rfl, hown.cast (by rw [HK.out, List.take_length])⟩
end Go.Proofs.Ythjaanhkmfiajac

/- The document's WritesFault: what it returns. No condition: at the least of all numbers of blocks the subtraction wraps, and the contract says so. -/
namespace Go.Proofs.Ythjaanhkmfiajac
open Go.RowKit

set_option maxRecDepth 100000 in
set_option maxHeartbeats 2000000 in
theorem WritesFault_any (v : Value) (W : List Wr) (n t : Int) (ht : IntKind.i64.wrap (n - 1) = t) (w : World) (h : WritesAt w v W) :
    Calls Try.prog 44 #[v, .int .i64 n] w fun e w' => e = .returned (.int .i64 (wFault W (t + 1))) ∧ Below w.heap.size w w' := by
  obtain ⟨p, cap, rfl, hl, _, hc⟩ := h
  have HC := Lib.hid hc
  clear hc
  by_cases h12 : 12 < W.length
  · have hr : wFault W (t + 1) = 1 := by unfold wFault; rw [if_pos h12]
    rw [hr]
    clear hr
    go_enter Try.func44, Try.ntmps44
    go_wp2
    go_ret
    exact ⟨rfl, Below.refl _ _⟩
  · have hr : wFault W (t + 1) = wRest (t + 1) none W := by unfold wFault; rw [if_neg h12]
    rw [hr]
    obtain ⟨R, hR⟩ : ∃ R, R = wRest (t + 1) none W := ⟨_, rfl⟩
    rw [← hR]
    have HR := Lib.hid hR
    clear hr hR
    go_enter Try.func44, Try.ntmps44
    go_wp2
    go_loopw [5] (fun i wr => ∃ k : Nat, k ≤ W.length ∧ i = .int .i64 k ∧ wRest (t + 1) none W = wRest (t + 1) (prevAt W k) (W.drop k) ∧ Below w.heap.size w wr) (fun i _ => W.length - (intOf i).toNat)
    case atStart => exact ⟨0, Nat.zero_le _, rfl, rfl, Below.refl _ _⟩
    case round =>
      obtain ⟨k, hk, rfl, hrest, hb⟩ := hrel
      have HREST := Lib.hid hrest
      clear hrest
      by_cases hlt : k < W.length
      · obtain ⟨x, hx⟩ : ∃ x, W[k]? = some x := ⟨W[k], List.getElem?_eq_getElem hlt⟩
        obtain ⟨b, off, rfl, hbl, c0, c1⟩ := HC.out k x hx
        replace c0 := (hb.cell (p := ⟨b, _, none⟩) hbl).trans c0
        replace c1 := (hb.cell (p := ⟨b, _, none⟩) hbl).trans c1
        have HX := Lib.hid hx
        clear hx
        by_cases hin : 0 ≤ x.block ∧ x.block ≤ t
        · have hi : inB x.block 0 t = true := by unfold inB; simpa using hin
          have HIN := Lib.hid hi
          have HIN2 := Lib.hid hin
          clear hi hin
          by_cases hd48 : 48 < x.data.size
          · have hr := wRest_stop HX.out HREST.out (m := 1) (by decide) (by unfold wOne; rw [if_neg (by have := HIN2.out; omega), if_pos hd48])
            rw [← HR.out] at hr
            have HRR := Lib.hid hr
            clear hr
            go_wp2_with (go_at_call 26; refine (In_any _ _ _ _).mono ?_; rw [HIN.out]; rintro e w2 ⟨rfl, rfl⟩)
            go_ret
            exact ⟨ret_int HRR.out.symm, hb⟩
          · cases k with
            | zero =>
              simp only [Nat.zero_mul, Nat.add_zero] at c0 c1
              have h0 : wOne (t + 1) (prevAt W 0) x = 0 := by unfold wOne prevAt; rw [if_neg (by have := HIN2.out; omega), if_neg hd48]
              have hr := wRest_go HX.out HREST.out h0
              have HRR := Lib.hid hr
              clear hr h0
              go_wp2_with (go_at_call 26; refine (In_any _ _ _ _).mono ?_; rw [HIN.out]; rintro e w2 ⟨rfl, rfl⟩)
              go_quiet (fail)
              go_wp2
              go_roundw
              case rel => exact ⟨1, by omega, by go_num, HRR.out, below_dr hb _⟩
              case measure => simp [intOf]; omega
            | succ j =>
              obtain ⟨y, hy⟩ : ∃ y, W[j]? = some y := ⟨W[j], List.getElem?_eq_getElem (by omega)⟩
              obtain ⟨b', off', hp', _, d0, _⟩ := HC.out j y hy
              cases hp'
              replace d0 := (hb.cell (p := ⟨b, _, none⟩) hbl).trans d0
              have hpr : prevAt W (j + 1) = some y.block := by show (W[j]?).map Wr.block = _; rw [hy]; rfl
              have HPR := Lib.hid hpr
              clear hy hpr
              have hpos : decide ((0 : Int) < (j : Int) + 1) = true := by rw [decide_eq_true_eq]; omega
              have hj1 : (j : Int) + 1 - 1 = (j : Int) := by omega
              have hw := IntWalk.i64_in ((j : Int) + 1 - 1) (by omega)
              by_cases hle : x.block ≤ y.block
              · have h0 : wOne (t + 1) (prevAt W (j + 1)) x = 4 := by unfold wOne; rw [if_neg (by have := HIN2.out; omega), if_neg hd48, HPR.out]; simp only; rw [if_pos hle]
                have hr := wRest_stop HX.out HREST.out (m := 4) (by decide) h0
                rw [← HR.out] at hr
                have HRR := Lib.hid hr
                have hd : decide (x.block ≤ y.block) = true := by simpa using hle
                clear hr h0 hle
                go_wp2_with (go_at_call 26; refine (In_any _ _ _ _).mono ?_; rw [HIN.out]; rintro e w2 ⟨rfl, rfl⟩)
                go_quiet (fail)
                go_wp2
                go_ret
                exact ⟨ret_int HRR.out.symm, below_dr hb _⟩
              · have h0 : wOne (t + 1) (prevAt W (j + 1)) x = 0 := by unfold wOne; rw [if_neg (by have := HIN2.out; omega), if_neg hd48, HPR.out]; simp only; rw [if_neg hle]
                have hr := wRest_go HX.out HREST.out h0
                have HRR := Lib.hid hr
                have hd : decide (x.block ≤ y.block) = false := by simpa using hle
                clear hr h0 hle
                go_wp2_with (go_at_call 26; refine (In_any _ _ _ _).mono ?_; rw [HIN.out]; rintro e w2 ⟨rfl, rfl⟩)
                go_quiet (fail)
                go_wp2
                go_roundw
                case rel => exact ⟨j + 1 + 1, by omega, by go_num, HRR.out, below_dr hb _⟩
                case measure => simp [intOf]; omega
        · have hi : inB x.block 0 t = false := by unfold inB; simpa using hin
          have hr := wRest_stop HX.out HREST.out (m := 6) (by decide) (by unfold wOne; rw [if_pos (by omega)])
          rw [← HR.out] at hr
          have HRR := Lib.hid hr
          have HIN := Lib.hid hi
          clear hr hi hin
          go_wp2_with (go_at_call 26; refine (In_any _ _ _ _).mono ?_; rw [HIN.out]; rintro e w2 ⟨rfl, rfl⟩)
          go_ret
          exact ⟨ret_int HRR.out.symm, hb⟩
      · have hr : R = 0 := by rw [HR.out, HREST.out, show k = W.length by omega, List.drop_length]; cases prevAt W W.length <;> rfl
        have HRR := Lib.hid hr
        clear hr
        go_wp2
        go_ret
        exact ⟨ret_int HRR.out.symm, hb⟩
end Go.Proofs.Ythjaanhkmfiajac

/- The document's VolumeMay: what it returns. No condition. -/
namespace Go.Proofs.Ythjaanhkmfiajac
open Go.RowKit

theorem all_more {α : Type} {L : List α} {f : α → Bool} {k : Nat} {x : α} (h : ∀ (j : Nat) (y : α), j < k → L[j]? = some y → f y = true) (hx : L[k]? = some x) (hf : f x = true) : ∀ (j : Nat) (y : α), j < k + 1 → L[j]? = some y → f y = true := by
  intro j y hj hy
  by_cases hjk : j < k
  · exact h j y hjk hy
  · obtain rfl : j = k := by omega
    rw [hx] at hy; cases hy; exact hf

set_option maxRecDepth 100000 in
set_option maxHeartbeats 2000000 in
theorem VolumeMay_any (v : Value) (V : Vol) (w : World) (h : VolAt w v V) :
    Calls Try.prog 42 #[v] w fun e w' => e = .returned (.bool (volB V)) ∧ Below w.heap.size w w' := by
  obtain ⟨vi, vb, rfl, hI, hZ⟩ := h
  have hI' := hI
  obtain ⟨p, cap, rfl, hl, _, hc⟩ := hI'
  obtain ⟨pz, capz, rfl, hlz, _, hcz⟩ := hZ
  have HI := Lib.hid hI
  have HC := Lib.hid hc
  have HZ := Lib.hid hcz
  clear hc hI hcz
  cases hm : mayB V.items with
  | false =>
    have hr := vol_items hm
    have HR := Lib.hid hr
    have HM := Lib.hid hm
    clear hr hm
    go_enter Try.func42, Try.ntmps42
    go_wp2_with (go_at_call 65; refine (ItemsMay_any _ V.items _ (HI.out.keep ((Below.refl _ _).alloc (Nat.le_refl _) _))).mono ?_; rw [HM.out]; rintro e w1 ⟨rfl, hb1⟩; have hP : Past2 w _ _ _ w1 := hb1; obtain ⟨q0, q1, f0, f1, hz⟩ := hP.cells)
    go_ret
    exact ⟨ret_bool HR.out.symm, below_box hb1⟩
  | true =>
    have HM := Lib.hid hm
    by_cases hin : 1 ≤ V.blocks.length ∧ V.blocks.length ≤ 32
    · have hi32 : inB (V.blocks.length : Int) 1 32 = true := by unfold inB; simp; omega
      have HIN := Lib.hid hi32
      have HIN2 := Lib.hid hin
      clear hi32
      go_enter Try.func42, Try.ntmps42
      go_wp2_with (first
        | (go_at_call 65; refine (ItemsMay_any _ V.items _ (HI.out.keep ((Below.refl _ _).alloc (Nat.le_refl _) _))).mono ?_; rw [HM.out]; rintro e w1 ⟨rfl, hb1⟩; have hP : Past2 w _ _ _ w1 := hb1; obtain ⟨q0, q1, f0, f1, hz⟩ := hP.cells)
        | (go_at_call 26; refine (In_any _ _ _ _).mono ?_; rw [HIN.out]; rintro e w2 ⟨rfl, rfl⟩))
      clear q0 q1 f0 f1 hz
      go_loopw [3] (fun i wr => ∃ k : Nat, k ≤ V.blocks.length ∧ i = .int .i64 k ∧ (∀ (j : Nat) (z : Int), j < k → V.blocks[j]? = some z → blockB V.items z = true) ∧ Past2 w (.slice p V.items.length cap) (.slice pz V.blocks.length capz) 27 wr) (fun i _ => V.blocks.length - (intOf i).toNat)
      case atStart => exact ⟨0, Nat.zero_le _, rfl, fun j _ hj => absurd hj (by omega), hP⟩
      case round =>
        clear hP hb1
        obtain ⟨k, hk, rfl, hall, hP⟩ := hrel
        obtain ⟨q0, q1, f0, f1, hz⟩ := hP.cells
        have HA := Lib.hid hall
        clear hall
        by_cases hlt : k < V.blocks.length
        · obtain ⟨z, hzk⟩ : ∃ z, V.blocks[k]? = some z := ⟨V.blocks[k], List.getElem?_eq_getElem hlt⟩
          obtain ⟨b, off, rfl, hbl, c0⟩ := HZ.out k z hzk
          replace c0 := (hP.box.cell (p := ⟨b, _, none⟩) hbl).trans c0
          have HZK := Lib.hid hzk
          clear hzk
          by_cases hz1 : z < -1
          · have hd1 : decide (z < -1) = true := by simpa using hz1
            have hr := vol_block HZK.out (by unfold blockB; simp; omega)
            have HR := Lib.hid hr
            clear hr
            go_wp2
            go_quiet (fail)
            go_wp2
            go_ret
            exact ⟨ret_bool HR.out.symm, (hP.dr _).box⟩
          · have hd1 : decide (z < -1) = false := by simpa using hz1
            by_cases hz0 : 0 ≤ z
            · have hd0 : decide (0 ≤ z) = true := by simpa using hz0
              have hitem : ∀ n, ItemsAt (wr.drewN n) (.slice p V.items.length cap) V.items := fun n => HI.out.keep (hP.dr n).box
              cases hp : pos V.items z with
              | none =>
                have hr := vol_block HZK.out (by unfold blockB; rw [hp]; simp; omega)
                have HR := Lib.hid hr
                have hcall : ∀ n, Calls Try.prog 43 #[.slice p V.items.length cap, .int .i64 z] (wr.drewN n) (fun e w'' => e = .returned (.int .i64 (-1)) ∧ w'' = wr.drewN n) := fun n => (itemAt_any _ V.items z _ (hitem n)).mono fun e w' he => ⟨by rw [← posInt_none hp]; exact he.1, he.2.symm⟩
                have HCALL := Lib.hid hcall
                clear hr hp hitem hcall
                go_wp2
                go_quiet ((go_at_call 43; exact Calls.quiet_of_same (HCALL.out _)))
                go_wp2
                go_ret
                exact ⟨ret_bool HR.out.symm, (hP.dr _).box⟩
              | some q =>
                have hok : blockB V.items z = true := by unfold blockB; rw [hp]; simp; omega
                have HOK := Lib.hid hok
                have hcall : ∀ n, Calls Try.prog 43 #[.slice p V.items.length cap, .int .i64 z] (wr.drewN n) (fun e w'' => e = .returned (.int .i64 (q : Int)) ∧ w'' = wr.drewN n) := fun n => (itemAt_any _ V.items z _ (hitem n)).mono fun e w' he => ⟨by rw [← posInt_some hp]; exact he.1, he.2.symm⟩
                have HCALL := Lib.hid hcall
                clear hok hp hitem hcall
                go_wp2
                go_quiet ((go_at_call 43; exact Calls.quiet_of_same (HCALL.out _)))
                go_wp2
                go_roundw
                case rel => exact ⟨k + 1, by omega, by go_num, all_more HA.out HZK.out HOK.out, hP.dr _⟩
                case measure => simp [intOf]; omega
            · have hd0 : decide (0 ≤ z) = false := by simpa using hz0
              have hok : blockB V.items z = true := by unfold blockB; simp; omega
              have HOK := Lib.hid hok
              clear hok
              go_wp2
              go_quiet (fail)
              go_wp2
              go_roundw
              case rel => exact ⟨k + 1, by omega, by go_num, all_more HA.out HZK.out HOK.out, hP.dr _⟩
              case measure => simp [intOf]; omega
        · have hblk : ∀ (j : Nat) (z : Int), j < V.blocks.length → V.blocks[j]? = some z → blockB V.items z = true := fun j z hj hz => HA.out j z (by omega) hz
          have HBLK := Lib.hid hblk
          clear hblk
          go_wp2
          go_loopw [4] (fun i wr => ∃ k : Nat, k ≤ V.items.length ∧ i = .int .i64 k ∧ (∀ (j : Nat) (x : It), j < k → V.items[j]? = some x → usesB V.blocks x = true) ∧ Past2 w (.slice p V.items.length cap) (.slice pz V.blocks.length capz) 27 wr) (fun i _ => V.items.length - (intOf i).toNat)
          case atStart => exact ⟨0, Nat.zero_le _, rfl, fun j _ hj => absurd hj (by omega), hP⟩
          case round =>
            clear hP q0 q1 f0 f1 hz
            obtain ⟨i, hi, rfl, hall2, hP⟩ := hrel
            obtain ⟨q0, q1, f0, f1, hz⟩ := hP.cells
            have HU := Lib.hid hall2
            clear hall2
            by_cases hil : i < V.items.length
            · obtain ⟨x, hx⟩ : ∃ x, V.items[i]? = some x := ⟨V.items[i], List.getElem?_eq_getElem hil⟩
              obtain ⟨bi, offi, rfl, hbi, c0, c1, c2⟩ := HC.out i x hx
              have C0 := Lib.hid c0
              have C1 := Lib.hid c1
              have C2 := Lib.hid c2
              have HX := Lib.hid hx
              clear hx c0 c1 c2
              go_wp2
              go_loopw [5, 6] (fun n j wr => ∃ m : Nat, m ≤ V.blocks.length ∧ j = .int .i64 m ∧ n = .int .i64 ((V.blocks.take m).count x.id : Nat) ∧ Past2 w (.slice (some ⟨bi, offi, none⟩) V.items.length cap) (.slice pz V.blocks.length capz) 27 wr) (fun _ j _ => V.blocks.length - (intOf j).toNat)
              case atStart => exact ⟨0, Nat.zero_le _, rfl, by simp, hP⟩
              case round =>
                clear hP q0 q1 f0 f1 hz
                obtain ⟨m, hm2, rfl, rfl, hP⟩ := hrel
                obtain ⟨q0, q1, f0, f1, hz⟩ := hP.cells
                have c0 := (hP.box.cell (p := ⟨bi, _, none⟩) hbi).trans C0.out
                have c1 := (hP.box.cell (p := ⟨bi, _, none⟩) hbi).trans C1.out
                have c2 := (hP.box.cell (p := ⟨bi, _, none⟩) hbi).trans C2.out
                obtain ⟨cnt, hcnt⟩ : ∃ cnt, cnt = (V.blocks.take m).count x.id := ⟨_, rfl⟩
                have hcl : cnt ≤ m := by rw [hcnt]; exact Nat.le_trans List.count_le_length (List.length_take_le _ _)
                rw [← hcnt]
                have HCNT := Lib.hid hcnt
                clear hcnt
                by_cases hml : m < V.blocks.length
                · obtain ⟨z, hzm⟩ : ∃ z, V.blocks[m]? = some z := ⟨V.blocks[m], List.getElem?_eq_getElem hml⟩
                  obtain ⟨bz, offz, rfl, hbz, d0⟩ := HZ.out m z hzm
                  replace d0 := (hP.box.cell (p := ⟨bz, _, none⟩) hbz).trans d0
                  have hsn := count_snoc (y := x.id) hzm
                  have HSN := Lib.hid hsn
                  clear hzm hsn
                  by_cases hzx : z = x.id
                  · have ht : (z == x.id) = true := by simpa using hzx
                    have hn : (V.blocks.take (m + 1)).count x.id = cnt + 1 := by rw [HSN.out, if_pos hzx, HCNT.out]
                    have HN := Lib.hid hn
                    clear hzx hn
                    go_wp2
                    go_quiet (fail)
                    go_wp2
                    go_roundw
                    case rel => exact ⟨m + 1, by omega, by go_num, by rw [HN.out]; go_num, hP.dr _⟩
                    case measure => simp [intOf]; omega
                  · have ht : (z == x.id) = false := by simpa using hzx
                    have hn : (V.blocks.take (m + 1)).count x.id = cnt := by rw [HSN.out, if_neg hzx, HCNT.out]; rfl
                    have HN := Lib.hid hn
                    clear hzx hn
                    go_wp2
                    go_quiet (fail)
                    go_wp2
                    go_roundw
                    case rel => exact ⟨m + 1, by omega, by go_num, by rw [HN.out], hP.dr _⟩
                    case measure => simp [intOf]; omega
                · have hcn : V.blocks.count x.id = cnt := by rw [HCNT.out, show m = V.blocks.length by omega, List.take_length]
                  have HCN := Lib.hid hcn
                  clear hcn
                  by_cases h1 : (cnt : Int) = x.refs
                  · have ht1 : ((cnt : Int) != x.refs) = false := by simpa using h1
                    by_cases h2 : 0 < x.data.size
                    · have hu : usesB V.blocks x = true := by unfold usesB; rw [HCN.out]; simp [h1, h2]
                      have HU1 := Lib.hid hu
                      have ht2 : x.data.toList.isEmpty = false := by
                        rw [ByteArray.toList_eq]
                        cases hl : x.data.data.toList with
                        | nil => have h3 : x.data.data.toList.length = x.data.size := Array.length_toList; rw [hl] at h3; simp at h3; omega
                        | cons c t => rfl
                      clear h1 hu
                      go_wp2
                      go_roundw
                      case rel => exact ⟨i + 1, by omega, by go_num, all_more HU.out HX.out HU1.out, hP⟩
                      case measure => simp [intOf]; omega
                    · have hu : usesB V.blocks x = false := by unfold usesB; simp [h2]
                      have ht2 : x.data.toList.isEmpty = true := by
                        rw [ByteArray.toList_eq, List.eq_nil_of_length_eq_zero (l := x.data.data.toList) (by have h3 : x.data.data.toList.length = x.data.size := Array.length_toList; omega)]; rfl
                      have HU1 := Lib.hid (vol_uses HX.out hu)
                      clear h1 hu
                      go_wp2
                      go_ret
                      exact ⟨ret_bool HU1.out.symm, hP.box⟩
                  · have ht1 : ((cnt : Int) != x.refs) = true := by simpa using h1
                    have hu : usesB V.blocks x = false := by unfold usesB; rw [HCN.out]; simp [h1]
                    have HU1 := Lib.hid (vol_uses HX.out hu)
                    clear h1 hu
                    go_wp2
                    go_ret
                    exact ⟨ret_bool HU1.out.symm, hP.box⟩
            · have hr := vol_all HM.out HIN2.out HBLK.out (fun j x hj hx => HU.out j x (by omega) hx)
              have HR := Lib.hid hr
              clear hr
              go_wp2
              go_ret
              exact ⟨ret_bool HR.out.symm, hP.box⟩
    · have hr := vol_len hin
      have HR := Lib.hid hr
      have hi32 : inB (V.blocks.length : Int) 1 32 = false := by unfold inB; simp; omega
      have HIN := Lib.hid hi32
      clear hr hi32 hin hm
      go_enter Try.func42, Try.ntmps42
      go_wp2_with (first
        | (go_at_call 65; refine (ItemsMay_any _ V.items _ (HI.out.keep ((Below.refl _ _).alloc (Nat.le_refl _) _))).mono ?_; rw [HM.out]; rintro e w1 ⟨rfl, hb1⟩; have hP : Past2 w _ _ _ w1 := hb1; obtain ⟨q0, q1, f0, f1, hz⟩ := hP.cells)
        | (go_at_call 26; refine (In_any _ _ _ _).mono ?_; rw [HIN.out]; rintro e w2 ⟨rfl, rfl⟩))
      go_ret
      exact ⟨ret_bool HR.out.symm, below_box hb1⟩
end Go.Proofs.Ythjaanhkmfiajac

/- The document's ReadOf and the statements' own sameVolume: what they return. No condition. -/
namespace Go.Proofs.Ythjaanhkmfiajac
open Go.RowKit

set_option maxRecDepth 100000 in
set_option maxHeartbeats 1000000 in
theorem ReadOf_any (v : Value) (V : Vol) (n : Int) (hn : -9223372036854775808 ≤ n ∧ n ≤ 9223372036854775807) (w : World) (h : VolAt w v V) :
    Calls Try.prog 28 #[v, .int .i64 n] w fun e w' => e = .returned (.tuple #[.string (readOf V n).1, .int .i64 (readOf V n).2]) ∧ Below w.heap.size w w' := by
  have h' := h
  obtain ⟨vi, vb, rfl, hI, hZ⟩ := h'
  have hI' := hI
  obtain ⟨p, cap, rfl, hl, _, hc⟩ := hI'
  obtain ⟨pz, capz, rfl, hlz, _, hcz⟩ := hZ
  have HV := Lib.hid h
  have HI := Lib.hid hI
  have HC := Lib.hid hc
  have HZ := Lib.hid hcz
  clear hc hI hcz h
  cases hm : volB V with
  | false =>
    have hr : readOf V n = (⟨#[]⟩, 7) := by unfold readOf; rw [if_pos hm]
    have HR := Lib.hid hr
    have HM := Lib.hid hm
    clear hr hm
    go_enter Try.func28, Try.ntmps28
    go_wp2_with (go_at_call 42; refine (VolumeMay_any _ V _ (HV.out.keep ((Below.refl _ _).alloc (Nat.le_refl _) _))).mono ?_; rw [HM.out]; rintro e w1 ⟨rfl, hb1⟩; have hP : Past2 w _ _ _ w1 := hb1; obtain ⟨q0, q1, f0, f1, hz⟩ := hP.cells)
    go_ret2
    exact ⟨ret_read HR.out, hP.box⟩
  | true =>
    have HM := Lib.hid hm
    have hlen := vol_len32 hm
    have hl1 := hlen.1
    have hl2 := hlen.2
    by_cases hin : 0 ≤ n ∧ n ≤ (V.blocks.length : Int) - 1
    · have hi : inB n 0 ((V.blocks.length : Int) - 1) = true := by unfold inB; simpa using hin
      have HIN := Lib.hid hi
      obtain ⟨k, rfl⟩ : ∃ k : Nat, n = (k : Int) := ⟨n.toNat, by omega⟩
      have hk : k < V.blocks.length := by omega
      obtain ⟨z, hzk⟩ : ∃ z, V.blocks[k]? = some z := ⟨V.blocks[k], List.getElem?_eq_getElem hk⟩
      obtain ⟨b, off, rfl, hbl, c0⟩ := HZ.out k z hzk
      have C0 := Lib.hid c0
      have hr0 : readOf V (k : Int) = if z < 0 then ((⟨#[]⟩, 0) : ByteArray × Int) else match pos V.items z with
          | some q => ((V.items[q]?.getD It.zero).data, 0)
          | none => (⟨#[]⟩, 0) := by
        unfold readOf; rw [if_neg (by simp [hm]), if_neg (by simpa using hin)]; simp [hzk]; rfl
      by_cases hz0 : z < 0
      · rw [if_pos hz0] at hr0
        have HR := Lib.hid hr0
        clear hr0 hm hi hin c0 hzk
        go_enter Try.func28, Try.ntmps28
        go_wp2_with (first
          | (go_at_call 42; refine (VolumeMay_any _ V _ (HV.out.keep ((Below.refl _ _).alloc (Nat.le_refl _) _))).mono ?_; rw [HM.out]; rintro e w1 ⟨rfl, hb1⟩; have hP : Past2 w _ _ _ w1 := hb1; obtain ⟨q0, q1, f0, f1, hz⟩ := hP.cells; have d0 := (hP.box.cell (p := ⟨b, _, none⟩) hbl).trans C0.out)
          | (go_at_call 26; refine (In_any _ _ _ _).mono ?_; rw [HIN.out]; rintro e w2 ⟨rfl, rfl⟩))
        go_ret2
        exact ⟨ret_read HR.out, hP.box⟩
      · rw [if_neg hz0] at hr0
        have hbk := vol_at hm hzk
        cases hp : pos V.items z with
        | none =>
          unfold blockB at hbk
          rw [hp] at hbk
          simp at hbk
          omega
        | some q =>
          obtain ⟨x, hx, _⟩ := pos_lt hp
          have hq := (List.getElem?_eq_some_iff.1 hx).1
          obtain ⟨bi, offi, rfl, hbi, _, c1, _⟩ := HC.out q x hx
          rw [hp] at hr0
          simp only [hx, Option.getD_some] at hr0
          have HR := Lib.hid hr0
          have C1 := Lib.hid c1
          have HP := Lib.hid (posInt_some hp)
          clear hr0 hm hi hin c0 c1 hzk hp hx hbk
          go_enter Try.func28, Try.ntmps28
          go_wp2_with (first
            | (go_at_call 42; refine (VolumeMay_any _ V _ (HV.out.keep ((Below.refl _ _).alloc (Nat.le_refl _) _))).mono ?_; rw [HM.out]; rintro e w1 ⟨rfl, hb1⟩; have hP : Past2 w _ _ _ w1 := hb1; obtain ⟨q0, q1, f0, f1, hz⟩ := hP.cells; have d0 := (hP.box.cell (p := ⟨b, _, none⟩) hbl).trans C0.out; have d1 := (hP.box.cell (p := ⟨bi, _, none⟩) hbi).trans C1.out)
            | (go_at_call 26; refine (In_any _ _ _ _).mono ?_; rw [HIN.out]; rintro e w2 ⟨rfl, rfl⟩))
          have hcall : ∀ n, Calls Try.prog 43 #[.slice (some ⟨bi, offi, none⟩) V.items.length cap, .int .i64 z] (w1.drewN n) (fun e w'' => e = .returned (.int .i64 (q : Int)) ∧ w'' = w1.drewN n) := fun n => (itemAt_any _ V.items z _ (HI.out.keep (hP.dr n).box)).mono fun e w' he => ⟨by rw [← HP.out]; exact he.1, he.2.symm⟩
          have HCALL := Lib.hid hcall
          clear hcall
          go_quiet ((go_at_call 43; exact Calls.quiet_of_same (HCALL.out _)))
          go_wp2
          go_ret2
          exact ⟨ret_read HR.out, (hP.dr _).box⟩
    · have hi : inB n 0 ((V.blocks.length : Int) - 1) = false := by unfold inB; simpa using hin
      have HIN := Lib.hid hi
      have hr : readOf V n = (⟨#[]⟩, 6) := by unfold readOf; rw [if_neg (by simp [hm]), if_pos hin]
      have HR := Lib.hid hr
      clear hr hm hi hin
      go_enter Try.func28, Try.ntmps28
      go_wp2_with (first
        | (go_at_call 42; refine (VolumeMay_any _ V _ (HV.out.keep ((Below.refl _ _).alloc (Nat.le_refl _) _))).mono ?_; rw [HM.out]; rintro e w1 ⟨rfl, hb1⟩; have hP : Past2 w _ _ _ w1 := hb1; obtain ⟨q0, q1, f0, f1, hz⟩ := hP.cells)
        | (go_at_call 26; refine (In_any _ _ _ _).mono ?_; rw [HIN.out]; rintro e w2 ⟨rfl, rfl⟩))
      go_ret2
      exact ⟨ret_read HR.out, hP.box⟩
end Go.Proofs.Ythjaanhkmfiajac

/- The document's VolumeCopy: what it returns. Condition: the size of what is copied. -/
namespace Go.Proofs.Ythjaanhkmfiajac
open Go.RowKit

set_option maxRecDepth 100000 in
set_option maxHeartbeats 2000000 in
theorem VolumeCopy_any (v : Value) (V : Vol) (w : World) (h : VolAt w v V) (hli : V.items.length * 32 ≤ 140737488355328) (hlz : V.blocks.length * 8 ≤ 140737488355328) :
    Calls Try.prog 13 #[v] w fun e w' => ∃ vi vb, e = .returned (.agg #[vi, vb]) ∧ OwnVol w.heap.size vi vb V w w' := by
  obtain ⟨i0, hi, hz0, hz1, hz2⟩ := info_parts Try.infoItem
  obtain ⟨j0, hj, hy0, hy1, hy2⟩ := info_parts Try.infoInt
  obtain ⟨vi, vb, rfl, hI, hZ⟩ := h
  have hB2 := below_alloc (below_alloc (Below.refl w.heap.size w) (.cells #[vi, vb] 27)) (.cells #[.slice none 0 0, .slice none 0 0] 27)
  have HI := Lib.hid (hI.keep hB2)
  have HZ := Lib.hid (hZ.keep hB2)
  obtain ⟨pi, ci, rfl, _⟩ := hI
  obtain ⟨pz, cz, rfl, _⟩ := hZ
  go_enter Try.func13, Try.ntmps13
  go_wp2
  go_region_law (first
    | (refine step_copy_all_items rfl (.const (.slice none 0 0)) (.tmp 4) 24 rfl 55 i0 _ Try.underlying24 hi hz0 rfl hz1 hz2 rfl V.items _ (HI.out.keep (Below.refl _ _).drew) rfl hli ?_; intro v2 w2 ho2; obtain ⟨p2, c2, rfl⟩ := ho2.isSlice; obtain ⟨a0, a1, b0, b1, f0, f1⟩ := two_boxes ho2.below rfl; have hi2 := HZ.out.keep ((Below.refl _ _).drew.trans (ho2.below)); have HO2 := Lib.hid ho2; clear ho2)
    | (refine step_copy_all_ints rfl (.const (.slice none 0 0)) (.tmp 7) 25 rfl 3 j0 _ Try.underlying25 hj hy0 rfl hy1 hy2 rfl V.blocks _ (HZ.out.keep (Below.refl _ _).drew) rfl hlz ?_; intro v2 w2 ho2; obtain ⟨p2, c2, rfl⟩ := ho2.isSlice; obtain ⟨a0, a1, b0, b1, f0, f1⟩ := two_boxes ho2.below rfl; have hi2 := HI.out.keep ((Below.refl _ _).drew.trans (ho2.below)); have HO2 := Lib.hid ho2; clear ho2)
    | (refine step_copy_all_items rfl (.const (.slice none 0 0)) (.tmp 4) 24 rfl 55 i0 _ Try.underlying24 hi hz0 rfl hz1 hz2 rfl V.items _ hi2 rfl hli ?_; intro v3 w3 ho3; obtain ⟨p3, c3, rfl⟩ := ho3.isSlice; obtain ⟨a0', a1', b0', b1', f0', f1'⟩ := two_boxes (HO2.out.below.trans (ho3.below.mono HO2.out.below.size)) rfl; clear a0 a1 b0 b1 f0 f1; have HO3 := Lib.hid ho3; clear ho3)
    | (refine step_copy_all_ints rfl (.const (.slice none 0 0)) (.tmp 7) 25 rfl 3 j0 _ Try.underlying25 hj hy0 rfl hy1 hy2 rfl V.blocks _ hi2 rfl hlz ?_; intro v3 w3 ho3; obtain ⟨p3, c3, rfl⟩ := ho3.isSlice; obtain ⟨a0', a1', b0', b1', f0', f1'⟩ := two_boxes (HO2.out.below.trans (ho3.below.mono HO2.out.below.size)) rfl; clear a0 a1 b0 b1 f0 f1; have HO3 := Lib.hid ho3; clear ho3))
  all_goals
    go_wp2
    first
      | exact bodyPost_ret (v := .agg #[.slice p2 V.items.length c2, .slice p3 V.blocks.length c3]) (by simp [results, Try.results13, go_sem, b0', b1']) rfl ⟨_, _, rfl, fin_items_first hB2 (by simp) HO2.out HO3.out⟩
      | exact bodyPost_ret (v := .agg #[.slice p3 V.items.length c3, .slice p2 V.blocks.length c2]) (by simp [results, Try.results13, go_sem, b0', b1']) rfl ⟨_, _, rfl, fin_ints_first hB2 (by simp) HO2.out HO3.out⟩
end Go.Proofs.Ythjaanhkmfiajac

/- The document's VolumeOf: what it returns. No condition. -/
namespace Go.Proofs.Ythjaanhkmfiajac
open Go.RowKit

set_option maxRecDepth 100000 in
set_option maxHeartbeats 1000000 in
theorem VolumeOf_any (n : Int) (w : World) : Calls Try.prog 11 #[.int .i64 n] w (RetVol (newOf n).1 (newOf n).2 w) := by
  obtain ⟨i0, hi, hz0, hz1, hz2⟩ := info_parts Try.infoInt
  by_cases hin : 1 ≤ n ∧ n ≤ 32
  · have hr : newOf n = (newV n.toNat, 0) := by unfold newOf; rw [if_pos hin]
    rw [hr]
    obtain ⟨m, rfl⟩ : ∃ m : Nat, n = (m : Int) := ⟨n.toNat, by omega⟩
    rw [Int.toNat_natCast]
    have hm32 : m ≤ 32 := by omega
    have hm1 : 1 ≤ m := by omega
    have hIN : inB (m : Int) 1 32 = true := by unfold inB; simpa using hin
    have HIN := Lib.hid hIN
    clear hr hin hIN
    go_enter Try.func11, Try.ntmps11
    go_wp2_with (go_at_call 26; refine (In_any _ _ _ _).mono ?_; rw [HIN.out]; rintro e w2 ⟨rfl, rfl⟩)
    go_loopw [5] (fun i wr => ∃ (k : Nat) (vb : Value), k ≤ m ∧ i = .int .i64 k ∧ wr.cell? ⟨w.heap.size + 1, 0, none⟩ = some (.slice none 0 0) ∧ wr.cell? ⟨w.heap.size + 1, 1, none⟩ = some vb ∧ wr.frozen? ⟨w.heap.size + 1, 1, none⟩ = false ∧
      wr.cell? ⟨w.heap.size, 0, none⟩ = some (.slice none 0 0) ∧ wr.cell? ⟨w.heap.size, 1, none⟩ = some (.slice none 0 0) ∧ wr.frozen? ⟨w.heap.size, 0, none⟩ = false ∧ wr.frozen? ⟨w.heap.size, 1, none⟩ = false ∧
      OwnZ (w.heap.size + 2) 3 vb (List.replicate k (-1)) wr wr ∧ Below w.heap.size w wr) (fun i _ => m - (intOf i).toNat)
    case atStart =>
      refine ⟨0, _, Nat.zero_le _, rfl, by simp, by simp, by simp, by simp, by simp, by simp, by simp, OwnZ.nil (Below.refl _ _) (by simp), ?_⟩
      exact below_alloc (below_alloc (Below.refl _ _) _) _
    case round =>
      obtain ⟨k, vb, hk, rfl, q0, q1, f1, r0, r1, g0, g1, hown, hb⟩ := hrel
      have hN : w.heap.size + 2 ≤ wr.heap.size := hown.2.2
      have hNlt : w.heap.size + 1 < w.heap.size + 2 := by omega
      have hRlt : w.heap.size < w.heap.size + 2 := by omega
      have hle2 : w.heap.size ≤ w.heap.size + 2 := by omega
      have hk33 : (List.replicate k (-1 : Int)).length + 1 ≤ 1000000 := by simp; omega
      by_cases hlt : k < m
      · go_wp2_with (at_builtin; go_loud (refine wpList_own_int rfl (.tmp 17) (.tmp 18) 25 rfl (w.heap.size + 2) 3 i0 _ Try.underlying25 hi hz0 rfl hz1 hz2 vb _ rfl wr wr (-1) hown _ rfl (by simp) hk33 ?_; intro v2 w2 hown2 hgr2; obtain ⟨gg, cap2, rfl, _, _, _⟩ := hown2.shape (by simp); have c0 := (hown2.below.cell (p := ⟨w.heap.size + 1, 0, none⟩) hNlt).trans q0; have c1 := (hown2.below.cell (p := ⟨w.heap.size + 1, 1, none⟩) hNlt).trans q1; have e1 := (hown2.below.frozen (p := ⟨w.heap.size + 1, 1, none⟩) hNlt).trans f1; have c2 := (hown2.below.cell (p := ⟨w.heap.size, 0, none⟩) hRlt).trans r0; have c3 := (hown2.below.cell (p := ⟨w.heap.size, 1, none⟩) hRlt).trans r1; have e2 := (hown2.below.frozen (p := ⟨w.heap.size, 0, none⟩) hRlt).trans g0; have e3 := (hown2.below.frozen (p := ⟨w.heap.size, 1, none⟩) hRlt).trans g1; have hb2 := hb.trans (hown2.below.mono hle2)))
        go_roundw
        case rel =>
          refine ⟨k + 1, _, by omega, by go_num, (World.cell?_setCell_other _ _ _ _ (by simp)).trans c0, World.cell?_setCell_same _ _ _ c1, by simp [e1], (World.cell?_setCell_other _ _ _ _ (by simp)).trans c2, (World.cell?_setCell_other _ _ _ _ (by simp)).trans c3, by simp [e2], by simp [e3], ?_, hb2.setCell (p := ⟨w.heap.size + 1, 1, none⟩) (Nat.le_succ _) _⟩
          have hh := (hown2.cast (l' := List.replicate (k + 1) (-1)) (by rw [List.replicate_succ'])).setBox (k := 1) (x := .slice (some ⟨gg, 0, none⟩) (k + 1) cap2) hNlt
          simpa using hh
        case measure => simp [intOf]; omega
      · have hkm : k = m := by omega
        subst hkm
        obtain ⟨gg, cap2, rfl, _, _, _⟩ := hown.shape (by simp; omega)
        simp only [List.length_replicate] at hown
        go_wp2
        have hfin : OwnVol w.heap.size (.slice none 0 0) (.slice (some ⟨gg, 0, none⟩) k cap2) (newV k) w ((wr.setCell ⟨w.heap.size, 0, none⟩ (.slice none 0 0)).setCell ⟨w.heap.size, 1, none⟩ (.slice (some ⟨gg, 0, none⟩) k cap2)) := by
          have hbb := below_set2 hb (.slice none 0 0) (.slice (some ⟨gg, 0, none⟩) k cap2)
          refine ⟨OwnI.nil hbb hbb.size, ?_, Or.inl rfl⟩
          exact ((hown.setBox (g := w.heap.size) (k := 0) (x := .slice none 0 0) (by omega)).setBox (g := w.heap.size) (k := 1) (x := .slice (some ⟨gg, 0, none⟩) k cap2) (by omega)).lower (by omega) hbb
        refine bodyPost_ret (v := .tuple #[.agg #[.slice none 0 0, .slice (some ⟨gg, 0, none⟩) k cap2], .int .i64 0]) (by simp [results, Try.results11, go_sem, r0, r1]) rfl ⟨_, _, rfl, hfin⟩
  · have hr : newOf n = (⟨[], []⟩, 2) := by unfold newOf; rw [if_neg hin]
    rw [hr]
    have hIN : inB n 1 32 = false := by unfold inB; simpa using hin
    have HIN := Lib.hid hIN
    clear hr hin hIN
    go_enter Try.func11, Try.ntmps11
    go_wp2_with (go_at_call 26; refine (In_any _ _ _ _).mono ?_; rw [HIN.out]; rintro e w2 ⟨rfl, rfl⟩)
    have hb0 := below_alloc (Below.refl w.heap.size w) (.cells #[.slice none 0 0, .slice none 0 0] 27)
    refine bodyPost_ret (v := .tuple #[.agg #[.slice none 0 0, .slice none 0 0], .int .i64 2]) (by simp [results, Try.results11, go_sem]) rfl ⟨_, _, rfl, OwnVol.none hb0 hb0.size⟩
end Go.Proofs.Ythjaanhkmfiajac

/- The statements' own sameVolume: true on two volumes that hold the same. No condition. -/
namespace Go.Proofs.Ythjaanhkmfiajac
open Go.RowKit


set_option maxRecDepth 100000 in
set_option maxHeartbeats 1000000 in
theorem sameVolume_any (v u : Value) (V : Vol) (w : World) (hv : VolAt w v V) (hu : VolAt w u V) :
    Calls Try.prog 7 #[v, u] w fun e w' => e = .returned (.bool true) ∧ Below w.heap.size w w' := by
  obtain ⟨vi, vb, rfl, hi, hb⟩ := hv
  obtain ⟨ui, ub, rfl, gi, gb⟩ := hu
  have HI := Lib.hid hi
  have GI := Lib.hid gi
  obtain ⟨pi, ci, rfl, _⟩ := hi
  obtain ⟨qi, di, rfl, _⟩ := gi
  obtain ⟨p, cap, rfl, hl, _, hc⟩ := hb
  obtain ⟨q, dap, rfl, _, _, gc⟩ := gb
  have HC := Lib.hid hc
  have GC := Lib.hid gc
  clear hc gc
  go_enter Try.func7, Try.ntmps7
  go_wp2
  go_loopw [5] (fun i wr => ∃ k : Nat, k ≤ V.blocks.length ∧ i = .int .i64 k ∧ Past22 w (.slice pi V.items.length ci) (.slice p V.blocks.length cap) (.slice qi V.items.length di) (.slice q V.blocks.length dap) 27 wr) (fun i _ => V.blocks.length - (intOf i).toNat)
  case atStart => exact ⟨0, Nat.zero_le _, rfl, Past22.start _ _ _ _ _ _⟩
  case round =>
    obtain ⟨k, hk, rfl, hP⟩ := hrel
    obtain ⟨a0, a1, b0, b1⟩ := hP.cells
    by_cases hlt : k < V.blocks.length
    · obtain ⟨z, hz⟩ : ∃ z, V.blocks[k]? = some z := ⟨V.blocks[k], List.getElem?_eq_getElem hlt⟩
      obtain ⟨b, off, rfl, hbl, c0⟩ := HC.out k z hz
      obtain ⟨b', off', rfl, hbl', d0⟩ := GC.out k z hz
      replace c0 := (hP.box.cell (p := ⟨b, _, none⟩) hbl).trans c0
      replace d0 := (hP.box.cell (p := ⟨b', _, none⟩) hbl').trans d0
      clear hz
      go_wp2
      go_quiet (fail)
      go_wp2
      go_roundw
      case rel => exact ⟨k + 1, by omega, by go_num, hP.dr _⟩
      case measure => simp [intOf]; omega
    · go_wp2_with (go_at_call 15; refine (sameItems_any _ _ V.items _ (HI.out.keep hP.box) (GI.out.keep hP.box)).mono ?_; rintro e w5 ⟨rfl, hb5⟩)
      go_ret
      exact ⟨rfl, below_then hP.box hb5⟩
end Go.Proofs.Ythjaanhkmfiajac

/- The document's AppliedOf: what it returns. Condition: the volume's size. -/
namespace Go.Proofs.Ythjaanhkmfiajac
open Go.RowKit

set_option maxRecDepth 100000 in
set_option maxHeartbeats 8000000 in
theorem AppliedOf_any (v u : Value) (V : Vol) (W : List Wr) (w : World) (h : VolAt w v V) (hw : WritesAt w u W) :
    Calls Try.prog 29 #[v, u] w (RetVol (applied V W).1 (applied V W).2 w) := by
  have h' := h
  obtain ⟨vi, vb, rfl, hI, hZ⟩ := h'
  obtain ⟨pi, ci, rfl, hli, _⟩ := hI
  obtain ⟨pz, cz, rfl, hlz, _⟩ := hZ
  have HV := Lib.hid h
  have HW := Lib.hid hw
  have hw' := hw
  obtain ⟨pw, cw, rfl, hlw, _, hcw⟩ := hw'
  have HCW := Lib.hid hcw
  clear h hw hcw
  have hP0 := Past22.start w (.slice pi V.items.length ci) (.slice pz V.blocks.length cz) (.slice none 0 0) (.slice none 0 0) 27
  cases hm : volB V with
  | false =>
    have hr : applied V W = (⟨[], []⟩, 7) := by unfold applied; rw [if_pos hm]
    rw [hr]
    have HM := Lib.hid hm
    clear hr hm
    go_enter Try.func29, Try.ntmps29
    go_wp2_with (go_at_call 42; refine (VolumeMay_any _ V _ (HV.out.keep hP0.box)).mono ?_; rw [HM.out]; rintro e w1 ⟨rfl, hb1⟩; have hP : Past22 w _ _ _ _ _ w1 := below_then hP0 hb1; obtain ⟨a0, a1, b0, b1⟩ := hP.cells; obtain ⟨g0, g1, hs⟩ := hP.frz)
    exact bodyPost_ret (v := .tuple #[.agg #[.slice none 0 0, .slice none 0 0], .int .i64 7]) (by simp [results, Try.results29, go_sem, b0, b1]) rfl (RetVol.none (below_res hP.box _ _))
  | true =>
    have HM := Lib.hid hm
    have hlen := (volB_iff.1 hm).len
    have hl1 := hlen.1
    have hl2 := hlen.2
    have hmay := may_len (volB_iff.1 hm).may
    have ht : IntKind.i64.wrap ((V.blocks.length : Int) - 1) = (V.blocks.length : Int) - 1 := IntWalk.i64_in _ (by omega)
    have HT := Lib.hid ht
    have hplus : (V.blocks.length : Int) - 1 + 1 = (V.blocks.length : Int) := by omega
    have HPL := Lib.hid hplus
    clear hplus
    by_cases hf : wFault W V.blocks.length = 0
    · rw [applied_ok hm hf]
      obtain ⟨RES, hRES⟩ : ∃ RES, RES = keepAll (W.foldl dropW V) W := ⟨_, rfl⟩
      rw [← hRES]
      have HRES := Lib.hid hRES
      clear hRES
      have HF := Lib.hid hf
      clear hf hm hlen
      go_enter Try.func29, Try.ntmps29
      go_wp2_with (first
        | (go_at_call 42; refine (VolumeMay_any _ V _ (HV.out.keep hP0.box)).mono ?_; rw [HM.out]; rintro e w1 ⟨rfl, hb1⟩; have hP : Past22 w _ _ _ _ _ w1 := below_then hP0 hb1; obtain ⟨a0, a1, b0, b1⟩ := hP.cells; obtain ⟨g0, g1, hs⟩ := hP.frz)
        | (go_at_call 44; refine (WritesFault_any _ W _ _ HT.out _ (HW.out.keep hP.box)).mono ?_; rw [HPL.out, HF.out]; rintro e w2 ⟨rfl, hb2⟩; have hP2 := hP.next hb2; clear a0 a1 b0 b1 g0 g1 hs; obtain ⟨a0, a1, b0, b1⟩ := hP2.cells; obtain ⟨g0, g1, hs⟩ := hP2.frz)
        | (go_at_call 13; refine (VolumeCopy_any _ V _ (HV.out.keep hP2.box) (by omega) (by omega)).mono ?_; rintro e w3 ⟨vi3, vb3, rfl, hown3⟩; obtain ⟨g, cap3, rfl, hg1, hg2, hg3⟩ := hown3.2.1.shape (by omega); obtain ⟨p3, c3, rfl⟩ : ∃ p c, vi3 = .slice p V.items.length c := (by rcases hown3.1.1.2 with ⟨rfl, hn⟩ | ⟨_, cap, _, rfl, _⟩; exact ⟨none, 0, by rw [hn]⟩; exact ⟨_, cap, rfl⟩); have hst0 := ApSt.start hP2 rfl hown3; have hbel0 : Below w.heap.size w _ := below_alloc (below_then hP2.box hown3.below) (.cells #[.slice p3 V.items.length c3, .slice (some ⟨g, 0, none⟩) V.blocks.length cap3] 27)))
      clear hown3 hb2 hb1 hP hP2 hP0 hg1 hg2 a0 a1 b0 b1 g0 g1 hs
      go_loopw [8, 9] (fun i _ wr => ∃ (k : Nat) (vk : Value), k ≤ W.length ∧ i = .int .i64 k ∧ ApSt (w.heap.size + 2) w3.heap.size (w.heap.size + 1) g cap3 wr vk ((W.take k).foldl dropW V) ∧ Below w.heap.size w wr) (fun i _ _ => W.length - (intOf i).toNat)
      case atStart => exact ⟨0, _, Nat.zero_le _, rfl, hst0, hbel0⟩
      case round =>
        clear hst0 hbel0
        obtain ⟨k, vk, hk, rfl, hst, hbel⟩ := hrel
        obtain ⟨Vk, hVk⟩ : ∃ Vk, Vk = (W.take k).foldl dropW V := ⟨_, rfl⟩
        rw [← hVk] at hst
        have hlenk : Vk.blocks.length = V.blocks.length := by rw [hVk]; exact dropAll_len _ _
        have hitk : Vk.items.length ≤ 24 := by rw [hVk]; exact Nat.le_trans (dropAll_le _ _) hmay
        have HVK := Lib.hid hVk
        have HLK := Lib.hid hlenk
        clear hVk
        have o0 := hst.o0
        have o1 := hst.o1
        have fo := hst.fo
        rw [hlenk] at o1
        clear hlenk
        by_cases hlt : k < W.length
        · obtain ⟨x, hx⟩ : ∃ x, W[k]? = some x := ⟨W[k], List.getElem?_eq_getElem hlt⟩
          obtain ⟨bw, offw, rfl, hbw, c0, _⟩ := HCW.out k x hx
          replace c0 := (hbel.cell (p := ⟨bw, _, none⟩) hbw).trans c0
          have hwx := wf_all HF.out hx
          obtain ⟨m, hm⟩ : ∃ m : Nat, x.block = (m : Int) := ⟨x.block.toNat, by omega⟩
          have hmt : x.block.toNat = m := by omega
          have hml : m < V.blocks.length := by omega
          obtain ⟨z, hz⟩ : ∃ z, Vk.blocks[m]? = some z := ⟨Vk.blocks[m]'(by rw [HLK.out]; exact hml), List.getElem?_eq_getElem (by rw [HLK.out]; exact hml)⟩
          obtain ⟨d0, fz⟩ := hst.block hz
          rw [hm] at c0
          have hfs := fold_snoc hx V
          rw [← HVK.out] at hfs
          have HFS := Lib.hid hfs
          have hmt' : Vk.blocks[x.block.toNat]? = some z := by rw [hmt]; exact hz
          have HMT := Lib.hid hmt'
          have HST := Lib.hid hst
          have HM2 := Lib.hid hmt
          have HZ := Lib.hid hz
          clear hx hwx hfs hmt' hst hmt hm hz
          by_cases h0 : 0 ≤ z
          · have hd : decide (0 ≤ z) = true := by simpa using h0
            go_wp2
            go_region_with (go_at_call 45; refine (DroppedOf_any _ Vk.items z _ (HST.out.drew.items (by omega))).mono ?_; rintro e w5 ⟨v5, rfl, hown5⟩; obtain ⟨p5, c5, rfl⟩ := hown5.isSlice; have st5 := HST.out.drew.past hown5.below; have p0 := st5.o0; have p1 := st5.o1; rw [HLK.out] at p1; have pf := st5.fo; obtain ⟨pb, pbf⟩ := st5.block HZ.out; have hgO := st5.hgO; have hgO1 : ¬ g = w3.heap.size := (by omega); have hgO2 : ¬ w3.heap.size = g := (by omega); have HOWN5 := Lib.hid hown5; clear hown5 st5 hgO)
            all_goals
              go_wp2
              go_roundw
              case rel =>
                refine ⟨k + 1, .slice p5 (dropped Vk.items z).1.length c5, by omega, by go_num, ?_, ?_⟩
                · rw [HFS.out, dropW_some HMT.out h0, HM2.out]
                  exact HST.out.drew.step HOWN5.out (by rw [HLK.out]; exact hml) (-1)
                · have hsz := HST.out.hO
                  have hgB := HST.out.hg
                  exact ((below_then hbel.drew HOWN5.out.below).setCell (p := ⟨w3.heap.size, 0, none⟩) (by show w.heap.size ≤ w3.heap.size; have := HST.out.hgO; omega) _).setCell (p := ⟨g, m, none⟩) (by show w.heap.size ≤ g; omega) _
              case measure => simp [intOf]; omega
          · have hd : decide (0 ≤ z) = false := by simpa using h0
            go_wp2
            go_roundw
            case rel => exact ⟨k + 1, _, by omega, by go_num, by rw [HFS.out, dropW_none HMT.out h0]; exact HST.out, hbel⟩
            case measure => simp [intOf]; omega
        · have hkw : k = W.length := by omega
          have hvd : Vk = W.foldl dropW V := by rw [HVK.out, hkw, List.take_length]
          have hres0 : RES = keepAll Vk (W.drop 0) := by rw [HRES.out, hvd]; rfl
          have HRES0 := Lib.hid hres0
          have HST := Lib.hid hst
          have hit49 : Vk.items.length ≤ 49 := by omega
          clear hkw hvd hres0 hst o0 o1 fo
          go_wp2
          go_loopw [10, 11, 12, 13] (fun i _ _ _ wr => ∃ (k : Nat) (vk : Value) (Vk : Vol), k ≤ W.length ∧ i = .int .i64 k ∧ ApSt (w.heap.size + 2) w3.heap.size (w.heap.size + 1) g cap3 wr vk Vk ∧ Below w.heap.size w wr ∧ Vk.blocks.length = V.blocks.length ∧ Vk.items.length ≤ 49 ∧ RES = keepAll Vk (W.drop k)) (fun i _ _ _ _ => W.length - (intOf i).toNat)
          case atStart => exact ⟨0, vk, Vk, Nat.zero_le _, rfl, HST.out, hbel, HLK.out, hit49, HRES0.out⟩
          case round =>
            clear hlt hitk HVK HLK hit49 HRES0 HST hbel hk
            obtain ⟨q, vq, Vq, hq, rfl, hst, hbel, hlq, hitq, hrq⟩ := hrel
            have o0 := hst.o0
            have o1 := hst.o1
            have fo := hst.fo
            rw [hlq] at o1
            have HLQ := Lib.hid hlq
            have HRQ := Lib.hid hrq
            have HST := Lib.hid hst
            clear hlq hrq
            by_cases hlt : q < W.length
            · obtain ⟨x, hx⟩ : ∃ x, W[q]? = some x := ⟨W[q], List.getElem?_eq_getElem hlt⟩
              obtain ⟨bw, offw, rfl, hbw, c0, c1⟩ := HCW.out q x hx
              have C0 := Lib.hid c0
              replace c0 := (hbel.cell (p := ⟨bw, _, none⟩) hbw).trans c0
              replace c1 := (hbel.cell (p := ⟨bw, _, none⟩) hbw).trans c1
              have hwx := wf_all HF.out hx
              obtain ⟨m, hm⟩ : ∃ m : Nat, x.block = (m : Int) := ⟨x.block.toNat, by omega⟩
              have hmt : x.block.toNat = m := by omega
              have hml : m < V.blocks.length := by omega
              have HM2 := Lib.hid hmt
              have HMB := Lib.hid hm
              rw [hm] at c0
              have hdr : W.drop q = x :: W.drop (q + 1) := by
                obtain ⟨h1, h2⟩ := List.getElem?_eq_some_iff.1 hx
                rw [List.drop_eq_getElem_cons h1, h2]
              have HDR := Lib.hid hdr
              have hbwO1 : ¬ w3.heap.size = bw := by have := hst.hgO; have := hst.hg; omega
              have hbwO2 : ¬ bw = w3.heap.size := by omega
              clear hst hx hwx hmt hm hdr
              by_cases hd0 : 0 < x.data.size
              · have HD0 : Hid (0 < x.data.size) := hd0
                by_cases hk0 : (kept Vq.items x.data).2.2 = 0
                · have hkw : (keepW Vq x) = (⟨(kept Vq.items x.data).1, Vq.blocks.set m (kept Vq.items x.data).2.1⟩, 0) := by
                    unfold keepW; rw [if_pos hd0, if_pos hk0, HM2.out]
                  have hres : RES = keepAll ⟨(kept Vq.items x.data).1, Vq.blocks.set m (kept Vq.items x.data).2.1⟩ (W.drop (q + 1)) := by
                    rw [HRQ.out, HDR.out, keepAll_go (by rw [hkw]), hkw]
                  have HRES2 := Lib.hid hres
                  have HK0 := Lib.hid hk0
                  clear hkw hres hk0
                  obtain ⟨z, hz⟩ : ∃ z, Vq.blocks[m]? = some z := ⟨Vq.blocks[m]'(by rw [HLQ.out]; exact hml), List.getElem?_eq_getElem (by rw [HLQ.out]; exact hml)⟩
                  have HZ := Lib.hid hz
                  clear hz
                  go_wp2
                  go_region_with (go_at_call 46; refine (KeptOf_any _ Vq.items x.data _ (HST.out.drew.items (by omega))).mono ?_; rintro e w5 ⟨v5, rfl, hown5⟩; rw [HK0.out]; obtain ⟨p5, c5, rfl⟩ := hown5.isSlice; have st5 := HST.out.drew.past hown5.below; have p0 := st5.o0; have p1 := st5.o1; rw [HLQ.out] at p1; have pf := st5.fo; obtain ⟨pb, pbf⟩ := st5.block HZ.out; have hgO := st5.hgO; have hgO1 : ¬ g = w3.heap.size := (by omega); have hgO2 : ¬ w3.heap.size = g := (by omega); have e0 := ((below_then hbel.drew hown5.below).cell (p := ⟨bw, _, none⟩) hbw).trans C0.out; rw [HMB.out] at e0; have HOWN5 := Lib.hid hown5; clear hown5 st5 hgO)
                  all_goals
                    go_wp2
                    go_region
                  all_goals
                    go_wp2
                    go_roundw
                    case rel =>
                      refine ⟨q + 1, .slice p5 (kept Vq.items x.data).1.length c5, ⟨(kept Vq.items x.data).1, Vq.blocks.set m (kept Vq.items x.data).2.1⟩, by omega, by go_num, ?_, ?_, by simp [HLQ.out], kept_len _ _, HRES2.out⟩
                      · exact (HST.out.drew.step HOWN5.out (by rw [HLQ.out]; exact hml) _).drew
                      · have hsz := HST.out.hO
                        have hgB := HST.out.hg
                        exact (((below_then hbel.drew HOWN5.out.below).setCell (p := ⟨w3.heap.size, 0, none⟩) (by show w.heap.size ≤ w3.heap.size; have := HST.out.hgO; omega) _).setCell (p := ⟨g, m, none⟩) (by show w.heap.size ≤ g; omega) _).drew
                    case measure => simp [intOf]; omega
                · have hkw : (keepW Vq x).2 = (kept Vq.items x.data).2.2 := by
                    unfold keepW; rw [if_pos hd0, if_neg hk0]
                  have hres : RES = (⟨[], []⟩, (kept Vq.items x.data).2.2) := by rw [HRQ.out, HDR.out, keepAll_stop (by rw [hkw]; exact hk0), hkw]
                  have HRES2 := Lib.hid hres
                  have ht : ((kept Vq.items x.data).2.2 != 0) = true := by simpa using hk0
                  clear hkw hres hk0
                  go_wp2
                  go_region_with (go_at_call 46; refine (KeptOf_any _ Vq.items x.data _ (HST.out.drew.items (by omega))).mono ?_; rintro e w5 ⟨v5, rfl, hown5⟩; obtain ⟨p5, c5, rfl⟩ := hown5.isSlice; have st5 := HST.out.drew.past hown5.below; have r0 := st5.r0; have r1 := st5.r1; have f0 := st5.f0; have f1 := st5.f1; have hb5 := below_then hbel.drew hown5.below; clear st5 hown5)
                  all_goals
                    go_wp2
                    rw [HRES2.out]
                    exact bodyPost_ret (v := .tuple #[.agg #[.slice none 0 0, .slice none 0 0], .int .i64 (kept Vq.items x.data).2.2]) (by simp [results, Try.results29, go_sem, r0, r1]) rfl (RetVol.none (below_res hb5 _ _))
              · have hkw : keepW Vq x = (Vq, 0) := by unfold keepW; rw [if_neg hd0]
                have hres : RES = keepAll Vq (W.drop (q + 1)) := by rw [HRQ.out, HDR.out, keepAll_go (by rw [hkw]), hkw]
                have HRES2 := Lib.hid hres
                clear hkw hres
                go_wp2
                go_roundw
                case rel => exact ⟨q + 1, vq, Vq, by omega, by go_num, HST.out, hbel, HLQ.out, hitq, HRES2.out⟩
                case measure => simp [intOf]; omega
            · have hres : RES = (Vq, 0) := by rw [HRQ.out, show q = W.length by omega, List.drop_length]; rfl
              obtain ⟨pq, cq, rfl⟩ := hst.isSlice
              have r0 := hst.r0
              have r1 := hst.r1
              have f0 := hst.f0
              have f1 := hst.f1
              have HRES2 := Lib.hid hres
              clear hres hst
              go_wp2
              rw [HRES2.out]
              have hfin := HST.out.done rfl hbel (.slice pq Vq.items.length cq) (.slice (some ⟨g, 0, none⟩) V.blocks.length cap3)
              rw [HLQ.out] at hfin
              exact bodyPost_ret (v := .tuple #[.agg #[.slice pq Vq.items.length cq, .slice (some ⟨g, 0, none⟩) V.blocks.length cap3], .int .i64 0]) (by simp [results, Try.results29, go_sem, r0, r1]) rfl ⟨_, _, rfl, hfin⟩
    · have hr : applied V W = (⟨[], []⟩, wFault W V.blocks.length) := apply_bad (volB_iff.1 hm) hf
      rw [hr]
      have ht2 : (wFault W V.blocks.length != 0) = true := by simpa using hf
      clear hr hf hm hlen
      go_enter Try.func29, Try.ntmps29
      go_wp2_with (first
        | (go_at_call 42; refine (VolumeMay_any _ V _ (HV.out.keep hP0.box)).mono ?_; rw [HM.out]; rintro e w1 ⟨rfl, hb1⟩; have hP : Past22 w _ _ _ _ _ w1 := below_then hP0 hb1; obtain ⟨a0, a1, b0, b1⟩ := hP.cells; obtain ⟨g0, g1, hs⟩ := hP.frz)
        | (go_at_call 44; refine (WritesFault_any _ W _ _ HT.out _ (HW.out.keep hP.box)).mono ?_; rw [HPL.out]; rintro e w2 ⟨rfl, hb2⟩; have hP2 := hP.next hb2; clear a0 a1 b0 b1 g0 g1 hs; obtain ⟨a0, a1, b0, b1⟩ := hP2.cells; obtain ⟨g0, g1, hs⟩ := hP2.frz))
      exact bodyPost_ret (v := .tuple #[.agg #[.slice none 0 0, .slice none 0 0], .int .i64 (wFault W V.blocks.length)]) (by simp [results, Try.results29, go_sem, b0, b1]) rfl (RetVol.none (below_res hP2.box _ _))
end Go.Proofs.Ythjaanhkmfiajac
