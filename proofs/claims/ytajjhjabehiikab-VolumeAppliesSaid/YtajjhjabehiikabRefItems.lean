/- The document's In, itemAt, ItemsMay, GotOf over items: what they return. No condition. -/
import Derived.Test.YtajjhjabehiikabRows
import Derived.Test.YtajjhjabehiikabItems
import Derived.Test.YtajjhjabehiikabBase
import Derived.Deep.QuietTactic
import Derived.BigQuiet
import Derived.IntWalk
import Derived.Lib.Hide
import Derived.Outline
namespace Go.Proofs.Ytajjhjabehiikab
open Go.RowKit

def inB (n low high : Int) : Bool := decide (low ≤ n ∧ n ≤ high)

theorem In_any (n low high : Int) (w : World) :
    Calls Try.prog 45 #[.int .i64 n, .int .i64 low, .int .i64 high] w fun e w' => e = .returned (.bool (inB n low high)) ∧ w = w' := by
  by_cases h1 : low ≤ n <;> by_cases h2 : n ≤ high
  all_goals
    have e : inB n low high = decide (low ≤ n ∧ n ≤ high) := rfl
    have E : Hid (inB n low high = decide (low ≤ n ∧ n ≤ high)) := e
    clear e
    go_enter Try.func45, Try.ntmps45
    go_wp2
    go_ret
    refine ⟨?_, rfl⟩
    rw [E.out]
    simp [h1, h2]

set_option maxRecDepth 100000 in
theorem itemAt_any (v : Value) (L : List It) (id : Int) (w : World) (h : ItemsAt w v L) :
    Calls Try.prog 46 #[v, .int .i64 id] w fun e w' => e = .returned (.int .i64 (posInt L id)) ∧ w = w' := by
  obtain ⟨p, cap, rfl, hl, _, hc⟩ := h
  have HC := Lib.hid hc
  clear hc
  go_enter Try.func46, Try.ntmps46
  go_wp2
  go_loop [5] (fun i => ∃ k : Nat, k ≤ L.length ∧ i = .int .i64 k ∧ ∀ (j : Nat) (y : It), j < k → L[j]? = some y → y.id ≠ id) (fun i => L.length - (intOf i).toNat)
  case atStart => exact ⟨0, Nat.zero_le _, rfl, fun j y hj => absurd hj (by omega)⟩
  case round =>
    obtain ⟨k, hk, rfl, hall⟩ := hrel
    have HA := Lib.hid hall
    clear hall
    by_cases hlt : k < L.length
    · obtain ⟨x, hx⟩ : ∃ x, L[k]? = some x := ⟨L[k], List.getElem?_eq_getElem hlt⟩
      obtain ⟨b, off, rfl, hb, c0, c1, c2⟩ := HC.out k x hx
      have HX := Lib.hid hx
      clear hx c1 c2
      by_cases hid : x.id = id
      · have ht : (x.id == id) = true := by simpa using hid
        have hp : posInt L id = k := by unfold posInt; rw [pos_at HX.out hid HA.out]
        have HP := Lib.hid hp
        clear hid hp
        go_wp2
        go_ret
        exact ⟨ret_int HP.out.symm, rfl⟩
      · have ht : (x.id == id) = false := by simpa using hid
        have HN : Hid (x.id ≠ id) := hid
        clear hid
        go_wp2
        go_round
        case rel => exact ⟨k + 1, by omega, by go_num, seen_more HA.out HX.out HN.out⟩
        case measure => simp [intOf]; omega
    · have hp : posInt L id = -1 := by
        unfold posInt
        rw [pos_none (fun j y hj => HA.out j y (by have := (List.getElem?_eq_some_iff.1 hj).1; omega) hj)]
      have HP := Lib.hid hp
      clear hp
      go_wp2
      go_ret
      exact ⟨ret_int HP.out.symm, rfl⟩

set_option maxRecDepth 100000 in
set_option maxHeartbeats 1000000 in
theorem ItemsMay_any (v : Value) (L : List It) (w : World) (h : ItemsAt w v L) :
    Calls Try.prog 44 #[v] w fun e w' => e = .returned (.bool (mayB L)) ∧ Below w.heap.size w w' := by
  obtain ⟨p, cap, rfl, hl, _, hc⟩ := h
  have HC := Lib.hid hc
  clear hc
  go_enter Try.func44, Try.ntmps44
  go_wp2
  go_loopw [3] (fun i wr => ∃ k : Nat, k ≤ L.length ∧ i = .int .i64 k ∧ MayA L k ∧ MayB L k ∧ Below w.heap.size w wr) (fun i _ => L.length - (intOf i).toNat)
  case atStart => exact ⟨0, Nat.zero_le _, rfl, fun j y hj => absurd hj (by omega), fun i j _ _ _ hj => absurd hj (by omega), Below.refl _ _⟩
  case round =>
    obtain ⟨k, hk, rfl, hA, hB, hb⟩ := hrel
    have HA := Lib.hid hA
    have HB := Lib.hid hB
    clear hA hB
    by_cases hlt : k < L.length
    · obtain ⟨x, hx⟩ : ∃ x, L[k]? = some x := ⟨L[k], List.getElem?_eq_getElem hlt⟩
      obtain ⟨b, off, rfl, hbl, c0, c1, c2⟩ := HC.out k x hx
      have C0 := Lib.hid c0
      have C1 := Lib.hid c1
      replace c0 := (hb.cell (p := ⟨b, _, none⟩) hbl).trans c0
      replace c1 := (hb.cell (p := ⟨b, _, none⟩) hbl).trans c1
      replace c2 := (hb.cell (p := ⟨b, _, none⟩) hbl).trans c2
      have HX := Lib.hid hx
      clear hx
      by_cases hok : okB x = true
      · have hok' := hok
        simp only [okB, Bool.and_eq_true] at hok'
        obtain ⟨⟨h1, h2⟩, h3⟩ := hok'
        have h2' : ¬ 48 < x.data.size := by simpa using h2
        have HOK := Lib.hid hok
        have i1 : inB x.id 0 23 = true := h1
        have i3 : inB x.refs 1 32 = true := h3
        have H1 := Lib.hid i1
        have H3 := Lib.hid i3
        clear hok h1 h2 h3 i1 i3
        go_wp2_with (first
          | (go_at_call 45; refine (In_any _ _ _ _).mono ?_; rw [H1.out]; rintro e w1 ⟨rfl, rfl⟩)
          | (go_at_call 45; refine (In_any _ _ _ _).mono ?_; rw [H3.out]; rintro e w1 ⟨rfl, rfl⟩))
        go_loopw [4] (fun i wr => ∃ m : Nat, m ≤ k ∧ i = .int .i64 m ∧ MayC L m x ∧ Below w.heap.size w wr) (fun i _ => k - (intOf i).toNat)
        case atStart => exact ⟨0, Nat.zero_le _, rfl, fun i _ hi => absurd hi (by omega), hb⟩
        case round =>
          clear c0 c1 c2
          obtain ⟨m, hm, rfl, hC, hb2⟩ := hrel
          have HCC := Lib.hid hC
          clear hC
          have c0 := (hb2.cell (p := ⟨b, _, none⟩) hbl).trans C0.out
          have c1 := (hb2.cell (p := ⟨b, _, none⟩) hbl).trans C1.out
          by_cases hmk : m < k
          · have hml : m < L.length := by omega
            obtain ⟨y, hy⟩ : ∃ y, L[m]? = some y := ⟨L[m], List.getElem?_eq_getElem hml⟩
            obtain ⟨b', off', hp', _, d0, d1, _⟩ := HC.out m y hy
            cases hp'
            replace d0 := (hb2.cell (p := ⟨b, _, none⟩) hbl).trans d0
            replace d1 := (hb2.cell (p := ⟨b, _, none⟩) hbl).trans d1
            have HY := Lib.hid hy
            clear hy
            by_cases hid : x.id ≤ y.id
            · have hr := may_pair HX.out HY.out hmk (fun h => by have := h.1; omega)
              have HR := Lib.hid hr
              have hd : decide (x.id ≤ y.id) = true := by simpa using hid
              clear hr hid
              go_wp2
              go_quiet (fail)
              go_wp2
              go_ret
              exact ⟨ret_bool HR.out.symm, below_dr hb2 _⟩
            · have hd : decide (x.id ≤ y.id) = false := by simpa using hid
              by_cases hda : y.data = x.data
              · have hr := may_pair HX.out HY.out hmk (fun h => h.2 hda)
                have HR := Lib.hid hr
                have he : (y.data.toList == x.data.toList) = true := by rw [bytes_eq]; simpa using hda
                clear hr hid hda
                go_wp2
                go_quiet (fail)
                go_wp2
                go_ret
                exact ⟨ret_bool HR.out.symm, below_dr hb2 _⟩
              · have he : (y.data.toList == x.data.toList) = false := by rw [bytes_eq]; simpa using hda
                have HD : Hid (Ahead y x) := ⟨by omega, hda⟩
                clear hid hda
                go_wp2
                go_quiet (fail)
                go_wp2
                go_roundw
                case rel => exact ⟨m + 1, by omega, by go_num, MayC.more HCC.out HY.out HD.out, below_dr hb2 _⟩
                case measure => simp [intOf]; omega
          · have hmk' : m = k := by omega
            have HMK := Lib.hid hmk'
            clear hmk'
            go_wp2
            go_roundw
            case rel => exact ⟨k + 1, by omega, by go_num, MayA.more HA.out HX.out HOK.out, MayB.more HB.out HX.out (HMK.out ▸ HCC.out), hb2⟩
            case measure => simp [intOf]; omega
      · have hr := may_item HX.out (by simpa using hok)
        have HR := Lib.hid hr
        clear hr
        cases h1 : inB x.id 0 23 with
        | false =>
          have H1 := Lib.hid h1
          clear h1 hok
          go_wp2_with (go_at_call 45; refine (In_any _ _ _ _).mono ?_; rw [H1.out]; rintro e w1 ⟨rfl, rfl⟩)
          go_ret
          exact ⟨ret_bool HR.out.symm, hb⟩
        | true =>
          by_cases h2 : 48 < x.data.size
          · have H1 := Lib.hid h1
            clear h1 hok
            go_wp2_with (go_at_call 45; refine (In_any _ _ _ _).mono ?_; rw [H1.out]; rintro e w1 ⟨rfl, rfl⟩)
            go_ret
            exact ⟨ret_bool HR.out.symm, hb⟩
          · have h3 : inB x.refs 1 32 = false := by
              cases h3 : inB x.refs 1 32 with
              | false => rfl
              | true => exact absurd (by unfold okB; unfold inB at h1 h3; rw [h1, h3]; simp; omega) hok
            have H1 := Lib.hid h1
            have H3 := Lib.hid h3
            clear h1 h3 hok
            go_wp2_with (first
              | (go_at_call 45; refine (In_any _ _ _ _).mono ?_; rw [H1.out]; rintro e w1 ⟨rfl, rfl⟩)
              | (go_at_call 45; refine (In_any _ _ _ _).mono ?_; rw [H3.out]; rintro e w1 ⟨rfl, rfl⟩))
            go_ret
            exact ⟨ret_bool HR.out.symm, hb⟩
    · have hm : mayB L = decide (L.length ≤ 24) := may_all (fun j x hj hx => HA.out j x (by omega) hx) (fun i j y x hij hj hy hx => HB.out i j y x hij (by omega) hy hx)
      have HM := Lib.hid hm
      clear hm
      go_wp2
      go_ret
      exact ⟨ret_bool (by rw [HM.out]; simp; omega), hb⟩
end Go.Proofs.Ytajjhjabehiikab
