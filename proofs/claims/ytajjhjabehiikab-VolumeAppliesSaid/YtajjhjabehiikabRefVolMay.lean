/- The document's VolumeMay: what it returns. No condition. -/
import Derived.Test.YtajjhjabehiikabRefItems
import Derived.Test.YtajjhjabehiikabInts
namespace Go.Proofs.Ytajjhjabehiikab
open Go.RowKit

theorem all_more {α : Type} {L : List α} {f : α → Bool} {k : Nat} {x : α} (h : ∀ (j : Nat) (y : α), j < k → L[j]? = some y → f y = true) (hx : L[k]? = some x) (hf : f x = true) : ∀ (j : Nat) (y : α), j < k + 1 → L[j]? = some y → f y = true := by
  intro j y hj hy
  by_cases hjk : j < k
  · exact h j y hjk hy
  · obtain rfl : j = k := by omega
    rw [hx] at hy; cases hy; exact hf

set_option maxRecDepth 100000 in
set_option maxHeartbeats 2000000 in
theorem VolumeMay_any (v : Value) (V : Vol) (w : World) (h : VolAt w v V) :
    Calls Try.prog 23 #[v] w fun e w' => e = .returned (.bool (volB V)) ∧ Below w.heap.size w w' := by
  obtain ⟨vi, vb, rfl, hI, hZ⟩ := h
  have hI' := hI
  obtain ⟨p, cap, rfl, hl, _, hc⟩ := hI'
  obtain ⟨pz, capz, rfl, hlz, _, hcz⟩ := hZ
  have HI := Lib.hid hI
  have HC := Lib.hid hc
  have HZ := Lib.hid hcz
  clear hc hI hcz
  cases hm : mayB V.items with
  | false =>
    have hr := vol_items hm
    have HR := Lib.hid hr
    have HM := Lib.hid hm
    clear hr hm
    go_enter Try.func23, Try.ntmps23
    go_wp2_with (go_at_call 44; refine (ItemsMay_any _ V.items _ (HI.out.keep ((Below.refl _ _).alloc (Nat.le_refl _) _))).mono ?_; rw [HM.out]; rintro e w1 ⟨rfl, hb1⟩; have hP : Past2 w _ _ _ w1 := hb1; obtain ⟨q0, q1, f0, f1, hz⟩ := hP.cells)
    go_ret
    exact ⟨ret_bool HR.out.symm, below_box hb1⟩
  | true =>
    have HM := Lib.hid hm
    by_cases hin : 1 ≤ V.blocks.length ∧ V.blocks.length ≤ 32
    · have hi32 : inB (V.blocks.length : Int) 1 32 = true := by unfold inB; simp; omega
      have HIN := Lib.hid hi32
      have HIN2 := Lib.hid hin
      clear hi32
      go_enter Try.func23, Try.ntmps23
      go_wp2_with (first
        | (go_at_call 44; refine (ItemsMay_any _ V.items _ (HI.out.keep ((Below.refl _ _).alloc (Nat.le_refl _) _))).mono ?_; rw [HM.out]; rintro e w1 ⟨rfl, hb1⟩; have hP : Past2 w _ _ _ w1 := hb1; obtain ⟨q0, q1, f0, f1, hz⟩ := hP.cells)
        | (go_at_call 45; refine (In_any _ _ _ _).mono ?_; rw [HIN.out]; rintro e w2 ⟨rfl, rfl⟩))
      clear q0 q1 f0 f1 hz
      go_loopw [3] (fun i wr => ∃ k : Nat, k ≤ V.blocks.length ∧ i = .int .i64 k ∧ (∀ (j : Nat) (z : Int), j < k → V.blocks[j]? = some z → blockB V.items z = true) ∧ Past2 w (.slice p V.items.length cap) (.slice pz V.blocks.length capz) 25 wr) (fun i _ => V.blocks.length - (intOf i).toNat)
      case atStart => exact ⟨0, Nat.zero_le _, rfl, fun j _ hj => absurd hj (by omega), hP⟩
      case round =>
        clear hP hb1
        obtain ⟨k, hk, rfl, hall, hP⟩ := hrel
        obtain ⟨q0, q1, f0, f1, hz⟩ := hP.cells
        have HA := Lib.hid hall
        clear hall
        by_cases hlt : k < V.blocks.length
        · obtain ⟨z, hzk⟩ : ∃ z, V.blocks[k]? = some z := ⟨V.blocks[k], List.getElem?_eq_getElem hlt⟩
          obtain ⟨b, off, rfl, hbl, c0⟩ := HZ.out k z hzk
          replace c0 := (hP.box.cell (p := ⟨b, _, none⟩) hbl).trans c0
          have HZK := Lib.hid hzk
          clear hzk
          by_cases hz1 : z < -1
          · have hd1 : decide (z < -1) = true := by simpa using hz1
            have hr := vol_block HZK.out (by unfold blockB; simp; omega)
            have HR := Lib.hid hr
            clear hr
            go_wp2
            go_quiet (fail)
            go_wp2
            go_ret
            exact ⟨ret_bool HR.out.symm, (hP.dr _).box⟩
          · have hd1 : decide (z < -1) = false := by simpa using hz1
            by_cases hz0 : 0 ≤ z
            · have hd0 : decide (0 ≤ z) = true := by simpa using hz0
              have hitem : ∀ n, ItemsAt (wr.drewN n) (.slice p V.items.length cap) V.items := fun n => HI.out.keep (hP.dr n).box
              cases hp : pos V.items z with
              | none =>
                have hr := vol_block HZK.out (by unfold blockB; rw [hp]; simp; omega)
                have HR := Lib.hid hr
                have hcall : ∀ n, Calls Try.prog 46 #[.slice p V.items.length cap, .int .i64 z] (wr.drewN n) (fun e w'' => e = .returned (.int .i64 (-1)) ∧ w'' = wr.drewN n) := fun n => (itemAt_any _ V.items z _ (hitem n)).mono fun e w' he => ⟨by rw [← posInt_none hp]; exact he.1, he.2.symm⟩
                have HCALL := Lib.hid hcall
                clear hr hp hitem hcall
                go_wp2
                go_quiet ((go_at_call 46; exact Calls.quiet_of_same (HCALL.out _)))
                go_wp2
                go_ret
                exact ⟨ret_bool HR.out.symm, (hP.dr _).box⟩
              | some q =>
                have hok : blockB V.items z = true := by unfold blockB; rw [hp]; simp; omega
                have HOK := Lib.hid hok
                have hcall : ∀ n, Calls Try.prog 46 #[.slice p V.items.length cap, .int .i64 z] (wr.drewN n) (fun e w'' => e = .returned (.int .i64 (q : Int)) ∧ w'' = wr.drewN n) := fun n => (itemAt_any _ V.items z _ (hitem n)).mono fun e w' he => ⟨by rw [← posInt_some hp]; exact he.1, he.2.symm⟩
                have HCALL := Lib.hid hcall
                clear hok hp hitem hcall
                go_wp2
                go_quiet ((go_at_call 46; exact Calls.quiet_of_same (HCALL.out _)))
                go_wp2
                go_roundw
                case rel => exact ⟨k + 1, by omega, by go_num, all_more HA.out HZK.out HOK.out, hP.dr _⟩
                case measure => simp [intOf]; omega
            · have hd0 : decide (0 ≤ z) = false := by simpa using hz0
              have hok : blockB V.items z = true := by unfold blockB; simp; omega
              have HOK := Lib.hid hok
              clear hok
              go_wp2
              go_quiet (fail)
              go_wp2
              go_roundw
              case rel => exact ⟨k + 1, by omega, by go_num, all_more HA.out HZK.out HOK.out, hP.dr _⟩
              case measure => simp [intOf]; omega
        · have hblk : ∀ (j : Nat) (z : Int), j < V.blocks.length → V.blocks[j]? = some z → blockB V.items z = true := fun j z hj hz => HA.out j z (by omega) hz
          have HBLK := Lib.hid hblk
          clear hblk
          go_wp2
          go_loopw [4] (fun i wr => ∃ k : Nat, k ≤ V.items.length ∧ i = .int .i64 k ∧ (∀ (j : Nat) (x : It), j < k → V.items[j]? = some x → usesB V.blocks x = true) ∧ Past2 w (.slice p V.items.length cap) (.slice pz V.blocks.length capz) 25 wr) (fun i _ => V.items.length - (intOf i).toNat)
          case atStart => exact ⟨0, Nat.zero_le _, rfl, fun j _ hj => absurd hj (by omega), hP⟩
          case round =>
            clear hP q0 q1 f0 f1 hz
            obtain ⟨i, hi, rfl, hall2, hP⟩ := hrel
            obtain ⟨q0, q1, f0, f1, hz⟩ := hP.cells
            have HU := Lib.hid hall2
            clear hall2
            by_cases hil : i < V.items.length
            · obtain ⟨x, hx⟩ : ∃ x, V.items[i]? = some x := ⟨V.items[i], List.getElem?_eq_getElem hil⟩
              obtain ⟨bi, offi, rfl, hbi, c0, c1, c2⟩ := HC.out i x hx
              have C0 := Lib.hid c0
              have C1 := Lib.hid c1
              have C2 := Lib.hid c2
              have HX := Lib.hid hx
              clear hx c0 c1 c2
              go_wp2
              go_loopw [5, 6] (fun n j wr => ∃ m : Nat, m ≤ V.blocks.length ∧ j = .int .i64 m ∧ n = .int .i64 ((V.blocks.take m).count x.id : Nat) ∧ Past2 w (.slice (some ⟨bi, offi, none⟩) V.items.length cap) (.slice pz V.blocks.length capz) 25 wr) (fun _ j _ => V.blocks.length - (intOf j).toNat)
              case atStart => exact ⟨0, Nat.zero_le _, rfl, by simp, hP⟩
              case round =>
                clear hP q0 q1 f0 f1 hz
                obtain ⟨m, hm2, rfl, rfl, hP⟩ := hrel
                obtain ⟨q0, q1, f0, f1, hz⟩ := hP.cells
                have c0 := (hP.box.cell (p := ⟨bi, _, none⟩) hbi).trans C0.out
                have c1 := (hP.box.cell (p := ⟨bi, _, none⟩) hbi).trans C1.out
                have c2 := (hP.box.cell (p := ⟨bi, _, none⟩) hbi).trans C2.out
                obtain ⟨cnt, hcnt⟩ : ∃ cnt, cnt = (V.blocks.take m).count x.id := ⟨_, rfl⟩
                have hcl : cnt ≤ m := by rw [hcnt]; exact Nat.le_trans List.count_le_length (List.length_take_le _ _)
                rw [← hcnt]
                have HCNT := Lib.hid hcnt
                clear hcnt
                by_cases hml : m < V.blocks.length
                · obtain ⟨z, hzm⟩ : ∃ z, V.blocks[m]? = some z := ⟨V.blocks[m], List.getElem?_eq_getElem hml⟩
                  obtain ⟨bz, offz, rfl, hbz, d0⟩ := HZ.out m z hzm
                  replace d0 := (hP.box.cell (p := ⟨bz, _, none⟩) hbz).trans d0
                  have hsn := count_snoc (y := x.id) hzm
                  have HSN := Lib.hid hsn
                  clear hzm hsn
                  by_cases hzx : z = x.id
                  · have ht : (z == x.id) = true := by simpa using hzx
                    have hn : (V.blocks.take (m + 1)).count x.id = cnt + 1 := by rw [HSN.out, if_pos hzx, HCNT.out]
                    have HN := Lib.hid hn
                    clear hzx hn
                    go_wp2
                    go_quiet (fail)
                    go_wp2
                    go_roundw
                    case rel => exact ⟨m + 1, by omega, by go_num, by rw [HN.out]; go_num, hP.dr _⟩
                    case measure => simp [intOf]; omega
                  · have ht : (z == x.id) = false := by simpa using hzx
                    have hn : (V.blocks.take (m + 1)).count x.id = cnt := by rw [HSN.out, if_neg hzx, HCNT.out]; rfl
                    have HN := Lib.hid hn
                    clear hzx hn
                    go_wp2
                    go_quiet (fail)
                    go_wp2
                    go_roundw
                    case rel => exact ⟨m + 1, by omega, by go_num, by rw [HN.out], hP.dr _⟩
                    case measure => simp [intOf]; omega
                · have hcn : V.blocks.count x.id = cnt := by rw [HCNT.out, show m = V.blocks.length by omega, List.take_length]
                  have HCN := Lib.hid hcn
                  clear hcn
                  by_cases h1 : (cnt : Int) = x.refs
                  · have ht1 : ((cnt : Int) != x.refs) = false := by simpa using h1
                    by_cases h2 : 0 < x.data.size
                    · have hu : usesB V.blocks x = true := by unfold usesB; rw [HCN.out]; simp [h1, h2]
                      have HU1 := Lib.hid hu
                      have ht2 : x.data.toList.isEmpty = false := by
                        rw [ByteArray.toList_eq]
                        cases hl : x.data.data.toList with
                        | nil => have h3 : x.data.data.toList.length = x.data.size := Array.length_toList; rw [hl] at h3; simp at h3; omega
                        | cons c t => rfl
                      clear h1 hu
                      go_wp2
                      go_roundw
                      case rel => exact ⟨i + 1, by omega, by go_num, all_more HU.out HX.out HU1.out, hP⟩
                      case measure => simp [intOf]; omega
                    · have hu : usesB V.blocks x = false := by unfold usesB; simp [h2]
                      have ht2 : x.data.toList.isEmpty = true := by
                        rw [ByteArray.toList_eq, List.eq_nil_of_length_eq_zero (l := x.data.data.toList) (by have h3 : x.data.data.toList.length = x.data.size := Array.length_toList; omega)]; rfl
                      have HU1 := Lib.hid (vol_uses HX.out hu)
                      clear h1 hu
                      go_wp2
                      go_ret
                      exact ⟨ret_bool HU1.out.symm, hP.box⟩
                  · have ht1 : ((cnt : Int) != x.refs) = true := by simpa using h1
                    have hu : usesB V.blocks x = false := by unfold usesB; rw [HCN.out]; simp [h1]
                    have HU1 := Lib.hid (vol_uses HX.out hu)
                    clear h1 hu
                    go_wp2
                    go_ret
                    exact ⟨ret_bool HU1.out.symm, hP.box⟩
            · have hr := vol_all HM.out HIN2.out HBLK.out (fun j x hj hx => HU.out j x (by omega) hx)
              have HR := Lib.hid hr
              clear hr
              go_wp2
              go_ret
              exact ⟨ret_bool HR.out.symm, hP.box⟩
    · have hr := vol_len hin
      have HR := Lib.hid hr
      have hi32 : inB (V.blocks.length : Int) 1 32 = false := by unfold inB; simp; omega
      have HIN := Lib.hid hi32
      clear hr hi32 hin hm
      go_enter Try.func23, Try.ntmps23
      go_wp2_with (first
        | (go_at_call 44; refine (ItemsMay_any _ V.items _ (HI.out.keep ((Below.refl _ _).alloc (Nat.le_refl _) _))).mono ?_; rw [HM.out]; rintro e w1 ⟨rfl, hb1⟩; have hP : Past2 w _ _ _ w1 := hb1; obtain ⟨q0, q1, f0, f1, hz⟩ := hP.cells)
        | (go_at_call 45; refine (In_any _ _ _ _).mono ?_; rw [HIN.out]; rintro e w2 ⟨rfl, rfl⟩))
      go_ret
      exact ⟨ret_bool HR.out.symm, below_box hb1⟩
end Go.Proofs.Ytajjhjabehiikab
