/- LogsBack, walked. No condition but that the numbers are ints and the slice is within reach. -/
import Derived.Test.YthjaanhkmfiajabDoorKeepJoin
import Derived.Test.YthjaanhkmfiajabDoorKeepDeals
import Derived.Test.YthjaanhkmfiajabDoorPicked
namespace Go.Proofs.YthjaanhkmfiajabDoor.logsBack
open Go Go.RowKit

theorem ext_to (s : ByteArray) (k : Nat) : (s.extract 0 k).data.toList = s.data.toList.take k := by simp

set_option maxRecDepth 100000 in
set_option maxHeartbeats 2000000 in
theorem walk (v : Value) (L : List Rw) (n : Int) (w : World) (h : RawsAt w v L) (hok : ∀ r ∈ L, RwOk r) (hL : L.length * 32 ≤ 140737488351232) (hn : -9223372036854775808 ≤ n ∧ n ≤ 9223372036854775807) :
    Calls Tryd.prog 8 #[v, .int .i64 n] w fun e w' => e = .returned (.bool true) ∧ Below w.heap.size w w' := by
  have HR := Lib.hid (records_any v L w h hok hL)
  clear h hok hL
  go_enter Tryd.func8, Tryd.ntmps8
  go_upto_region 2 with (go_at_call 26; refine HR.out.mono ?_; rintro e w1 ⟨vd, vb, D, rfl, hdo, hdl, hat, hst, hcp, hb1⟩)
  obtain ⟨pd, cd, rfl, hdc⟩ : ∃ pd cd, vd = .slice pd D.length cd ∧ D.length ≤ cd := by
    obtain ⟨p, c, hv, _, hc, _⟩ := hat
    exact ⟨p, c, hv, hc⟩
  obtain ⟨pb, cb, rfl, hbc⟩ : ∃ pb cb, vb = .slice pb D.length cb ∧ D.length ≤ cb := by
    obtain ⟨p, c, hv, hc⟩ := hcp
    rw [List.length_map] at hv hc
    exact ⟨p, c, hv, hc⟩
  have hgood : ∀ W ∈ D, LM.Good 16 W := fun W hW => (hdo W hW).good
  have hbl : (LM.bytesOf D).length ≤ 140737488355328 := by
    have := (LM.tiny_bytes (L := D) (fun W hW => ⟨(hdo W hW).four, (hdo W hW).tiny⟩)).1
    omega
  obtain ⟨s, hs⟩ : ∃ s, s = allB D := ⟨_, rfl⟩
  have hsz : s.size = (LM.bytesOf D).length := by rw [hs]; exact allB_size D
  have hsl : s.data.toList = LM.bytesOf D := by rw [hs]; exact allB_list D
  have hall : LM.scan ((16 : Nat) : Int) (LM.bytesOf D) = (D, (LM.bytesOf D).length) := LM.scan_all hgood
  have hJ := Join_any _ D w1 hst hcp hbl
  rw [← hs] at hJ
  obtain ⟨k, hk⟩ : ∃ k : Nat, pick n ((s.size : Int) + 1) = (k : Int) := ⟨(pick n ((s.size : Int) + 1)).toNat, by have := pick_bd n ((s.size : Int) + 1) (by omega); omega⟩
  have hks : k ≤ s.size := by have := pick_bd n ((s.size : Int) + 1) (by omega); omega
  have hex : (s.extract 0 k).data.toList = (LM.bytesOf D).take k := by rw [ext_to s k, hsl]
  have hfit := LM.scan_fits hgood (k := k) (by omega)
  obtain ⟨m, hm⟩ : ∃ m, m = LM.fits D k := ⟨_, rfl⟩
  have hmD : m ≤ D.length := by rw [hm]; exact LM.fits_le D k
  have hsc1 : ∀ w, Calls Tryd.prog 28 #[.string s, .int .i64 16] w fun e w' => ∃ v', e = .returned (.tuple #[v', .int .i64 (s.size : Int)]) ∧ OwnD w.heap.size 41 v' D w w' := fun w => by
    have := Scan_any s 16 (by omega) (by omega) (by rw [hsl, hall]; simp only; omega) w
    rw [hsl, hall] at this
    rw [hsz]
    exact this
  have hsc2 : ∀ w, Calls Tryd.prog 28 #[.string (s.extract 0 k), .int .i64 16] w fun e w' => ∃ v', e = .returned (.tuple #[v', .int .i64 ((LM.bytesOf (D.take m)).length : Int)]) ∧ OwnD w.heap.size 41 v' (D.take m) w w' := fun w => by
    have := Scan_any (s.extract 0 k) 16 (by omega) (by have := len_eq (s.extract 0 k); rw [hex, List.length_take] at this; omega) (by rw [hex, hfit]; simp only [List.length_take]; omega) w
    rw [hex, hfit, ← hm] at this
    exact this
  have HJ := Lib.hid hJ
  have HS1 := Lib.hid hsc1
  have HS2 := Lib.hid hsc2
  have HK := Lib.hid hk
  have HM := Lib.hid hm
  have HAT := Lib.hid hat
  have HST := Lib.hid hst
  have hs47 : s.size ≤ 140737488355328 := by omega
  have HTK := Lib.hid (List.length_take (i := m) (l := D))
  have HSZ := Lib.hid hsz
  clear hJ hsc1 hsc2 hk hm hat hst hcp hall hfit hex hsl hs hgood hdo HR hsz
  go_upto_region 6 with (first
    | (go_at_call 27; refine HJ.out.mono ?_; rintro e w2 ⟨rfl, hb2⟩; have hb12 := below_then hb1 hb2)
    | (go_at_call 11; refine (picked_any n _ hn (by omega) _).mono ?_; rw [HK.out]; rintro e w3 ⟨rfl, rfl⟩)
    | (go_at_call 28; first
        | (with_reducible refine (HS1.out _).mono ?_)
        | (with_reducible refine (HS2.out _).mono ?_)
       rintro e w4 ⟨v4, rfl, ho4⟩
       obtain ⟨p4, c4, rfl⟩ := ho4.isSlice
       first
        | (have HO1 := Lib.hid ho4; have hb14 := below_then hb12 ho4.below; clear ho4)
        | (have HO2 := Lib.hid ho4; clear ho4)))
  have hb34 := HO2.out.below
  have hb24 := below_then hb2 (below_then HO1.out.below hb34)
  have hb4 := below_then hb14 hb34
  have HA1 := Lib.hid ((HO1.out.past hb34).deals (by omega))
  have ha2 := HO2.out.deals (by rw [List.length_take]; omega)
  rw [List.length_take, Nat.min_eq_left hmD] at ha2
  have HA2 := Lib.hid ha2
  clear ha2
  have HD0 := Lib.hid (HAT.out.keep hb24)
  have HST4 := Lib.hid (HST.out.keep hb24)
  have hcell : ∀ (j : Nat) (W : List Wr), D[j]? = some W → ∃ b off, pb = some ⟨b, off, none⟩ ∧ b < w4.heap.size ∧ w4.cell? ⟨b, off + j, none⟩ = some (.string (recB W)) := by
    intro j W hW
    obtain ⟨p, c, he, _, _, hc⟩ := HST4.out
    simp only [List.length_map, Value.slice.injEq] at he
    obtain ⟨rfl, _, rfl⟩ := he
    exact hc j (recB W) (by rw [List.getElem?_map, hW]; rfl)
  have HC := Lib.hid hcell
  have hrs : ∀ W : List Wr, (recB W).size = (LM.recL W).length := fun W => by simp [recB, ByteArray.size]
  have HRS := Lib.hid hrs
  obtain ⟨sums, hsums⟩ : ∃ f : Nat → Nat, f = fun j => (LM.bytesOf (D.take j)).length := ⟨_, rfl⟩
  have hsm : (LM.bytesOf (D.take m)).length = sums m := by rw [hsums]
  have hs0 : sums 0 = 0 := by rw [hsums]; rfl
  have hsb : ∀ j, sums j ≤ 140737488355328 := fun j => by rw [hsums]; exact Nat.le_trans (LM.bytes_take D j) hbl
  have hstep : ∀ (j : Nat) (W : List Wr), D[j]? = some W → sums (j + 1) = sums j + (recB W).size := fun j W hW => by rw [hsums, hrs]; exact LM.bytes_snoc hW
  have hmore : ∀ (j : Nat) (W : List Wr), j ≤ m → D[j]? = some W → (sums j + (recB W).size ≤ k ↔ j < m) := fun j W hj hW => by rw [hsums, hrs, HM.out]; exact LM.fits_more (by rw [← HM.out]; exact hj) hW
  rw [hsm]
  have HS0 := Lib.hid hs0
  have HSB := Lib.hid hsb
  have HSTEP := Lib.hid hstep
  have HMORE := Lib.hid hmore
  clear hcell hrs hsums hsm hs0 hsb hstep hmore HO1 HO2 HAT HST HST4 hb1 hb2 hb12 hb14
  go_wp2
  go_loopw [13, 14] (fun a b wr => ∃ j : Nat, j ≤ m ∧ a = .int .i64 (j : Int) ∧ b = .int .i64 (sums j : Int) ∧ Below w4.heap.size w4 wr) (fun a _ _ => m - (intOf a).toNat)
  case atStart => exact ⟨0, Nat.zero_le _, rfl, by rw [HS0.out]; rfl, Below.refl _ _⟩
  case round =>
    obtain ⟨j, hj, rfl, rfl, hb⟩ := hrel
    by_cases hlt : j < m
    · obtain ⟨W, hW⟩ : ∃ W, D[j]? = some W := ⟨_, List.getElem?_eq_getElem (by omega)⟩
      obtain ⟨b, off, rfl, hbl', c0⟩ := HC.out j W hW
      replace c0 := (hb.cell (p := ⟨b, _, none⟩) hbl').trans c0
      have h1 := (HMORE.out j W hj hW).2 hlt
      have h2 := HSTEP.out j W hW
      have h3 := HSB.out (j + 1)
      rw [h2] at h3
      have HN := Lib.hid h2
      obtain ⟨S, hS⟩ : ∃ S, recB W = S := ⟨_, rfl⟩
      rw [hS] at c0 h1 h3 HN
      have hjD : j < D.length := by omega
      clear hW h2 hS
      have hw := IntWalk.i64_in ((sums j : Int) + (S.size : Int)) (by omega)
      have hi0 : (0 : Int) ≤ (j : Int) := by omega
      have hi1 : (j : Int) < (D.length : Int) := by omega
      have t1 : decide (j < D.length) = true := by simpa using hjD
      have t2 : decide ((sums j : Int) + (S.size : Int) ≤ (k : Int)) = true := by simp; omega
      go_wp2
      all_goals
        go_roundw
        case rel => exact ⟨j + 1, by omega, by go_num, by rw [HN.out]; go_num, hb⟩
        case measure => simp [intOf]; omega
    · have hjm : j = m := by omega
      subst hjm
      have HB := Lib.hid hb
      have hb5 := below_then hb4 hb
      by_cases hmD' : j < D.length
      · obtain ⟨W, hW⟩ : ∃ W, D[j]? = some W := ⟨_, List.getElem?_eq_getElem hmD'⟩
        obtain ⟨b, off, rfl, hbl', c0⟩ := HC.out j W hW
        replace c0 := (hb.cell (p := ⟨b, _, none⟩) hbl').trans c0
        have h1 : ¬ sums j + (recB W).size ≤ k := fun h => by have := (HMORE.out j W (Nat.le_refl _) hW).1 h; omega
        have h2 := HSTEP.out j W hW
        have h3 := HSB.out (j + 1)
        rw [h2] at h3
        obtain ⟨S, hS⟩ : ∃ S, recB W = S := ⟨_, rfl⟩
        rw [hS] at c0 h1 h3
        clear hW h2 hS
        have hw := IntWalk.i64_in ((sums j : Int) + (S.size : Int)) (by omega)
        have hi0 : (0 : Int) ≤ (j : Int) := by omega
        have hi1 : (j : Int) < (D.length : Int) := by omega
        have t1 : decide (j < D.length) = true := by simpa using hmD'
        have t2 : decide ((sums j : Int) + (S.size : Int) ≤ (k : Int)) = false := by simp; omega
        go_wp2_with (first
          | (go_at_call 29; ((with_reducible refine (sameDeals_any _ _ D _ (HA1.out.keep HB.out) (HD0.out.keep HB.out)).mono ?_); rintro e w6 ⟨rfl, hb6⟩))
          | (go_at_call 29; refine (sameDeals_any _ _ (D.take j) _ (HA2.out.keep (below_then HB.out hb6)) (DealsAt.take (HD0.out.keep (below_then HB.out hb6)) (by omega))).mono ?_; rintro e w7 ⟨rfl, hb7⟩))
        go_ret
        exact ⟨rfl, below_then (below_then hb5 hb6) hb7⟩
      · have hjD : j = D.length := by omega
        have t1 : decide (j < D.length) = false := by simp; omega
        have hi1 : ¬ (j : Int) < (D.length : Int) := by omega
        clear hjD hmD'
        go_wp2_with (first
          | (go_at_call 29; ((with_reducible refine (sameDeals_any _ _ D _ (HA1.out.keep HB.out) (HD0.out.keep HB.out)).mono ?_); rintro e w6 ⟨rfl, hb6⟩))
          | (go_at_call 29; refine (sameDeals_any _ _ (D.take j) _ (HA2.out.keep (below_then HB.out hb6)) (DealsAt.take (HD0.out.keep (below_then HB.out hb6)) (by omega))).mono ?_; rintro e w7 ⟨rfl, hb7⟩))
        go_ret
        exact ⟨rfl, below_then (below_then hb5 hb6) hb7⟩
end Go.Proofs.YthjaanhkmfiajabDoor.logsBack
