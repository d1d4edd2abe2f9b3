/- LogsSpoilt, walked. No condition but that the numbers are ints and the slice is within reach. -/
import Derived.Test.YthjaanhkmfiajabDoorKeepJoin
import Derived.Test.YthjaanhkmfiajabDoorKeepDeals
import Derived.Test.YthjaanhkmfiajabDoorPicked
import Derived.Test.YthjaanhkmfiajabDoorConv
namespace Go.Proofs.YthjaanhkmfiajabDoor.logsSpoilt
open Go Go.RowKit

def eight : List UInt8 := [114, 0, 1, 0, 1, 206, 0, 116]
theorem conv_eight (W : World) (o : Array Value) (ho : o = #[.int .u8 114, .int .u8 0, .int .u8 1, .int .u8 0, .int .u8 1, .int .u8 206, .int .u8 0, .int .u8 116]) :
    (convert 66 9 (.slice (some ⟨W.heap.size, 0, none⟩) 8 8)).run Tryd.prog (W.alloc (.cells o 5)) = .ok (.string ⟨eight.toArray⟩) (W.alloc (.cells o 5)) := by
  subst ho
  refine run_convert_bytes_back (P := Tryd.prog) _ 66 9 5 ⟨W.heap.size, 0, none⟩ 8 eight Tryd.underlying66 Tryd.underlying5 Tryd.underlying9 ?_
  intro j hj
  match j, hj with
  | 0, _ => simp [Addr.add, eight]
  | 1, _ => simp [Addr.add, eight]
  | 2, _ => simp [Addr.add, eight]
  | 3, _ => simp [Addr.add, eight]
  | 4, _ => simp [Addr.add, eight]
  | 5, _ => simp [Addr.add, eight]
  | 6, _ => simp [Addr.add, eight]
  | 7, _ => simp [Addr.add, eight]

theorem bytes_box (w W : World) (s : ByteArray) (cap : Nat) (T : TypeId) (hW : W = (w.alloc (.cells (bytesRow s cap) T ((bytesRow s cap).size, (bytesRow s cap).size + 1))).drew) (hcap : s.size ≤ cap) :
    (∀ j c, s.data.toList[j]? = some c → W.cell? ⟨w.heap.size, j, none⟩ = some (.int .u8 (c.toNat : Int))) ∧ (∀ j, j < s.size → W.frozen? ⟨w.heap.size, j, none⟩ = false) ∧ Below w.heap.size w W ∧ w.heap.size < W.heap.size := by
  subst hW
  have hsz : (bytesRow s cap).size = cap := by
    unfold bytesRow
    have : s.data.size = s.size := rfl
    simp
    omega
  refine ⟨fun j c hj => ?_, fun j hj => ?_, (below_alloc (Below.refl _ _) _).drew, by simp⟩
  · have hjl := (List.getElem?_eq_some_iff.1 hj).1
    show (w.alloc _).cell? _ = _
    rw [World.cell?_alloc_mark]
    unfold bytesRow
    rw [Array.getElem?_append_left (by simpa using hjl), Array.getElem?_map]
    rw [Array.getElem?_toList] at hj
    rw [hj]
    rfl
  · show (w.alloc _).frozen? _ = _
    simp only [World.frozen?, World.alloc, Array.getElem?_push, if_true]
    simp [hsz]
    omega

set_option maxRecDepth 100000 in
set_option maxHeartbeats 2000000 in
theorem walk (v : Value) (L : List Rw) (n : Int) (y : UInt8) (w : World) (h : RawsAt w v L) (hok : ∀ r ∈ L, RwOk r) (hL : L.length * 32 ≤ 140737488351232) (hn : -9223372036854775808 ≤ n ∧ n ≤ 9223372036854775807) :
    Calls Tryd.prog 9 #[v, .int .i64 n, .int .u8 (y.toNat : Int)] w fun e w' => e = .returned (.bool true) ∧ Below w.heap.size w w' := by
  have HR := Lib.hid (fun w' (hb : Below w.heap.size w w') => records_any v L w' (h.keep hb) hok hL)
  have hsc0 : ∀ w, Calls Tryd.prog 28 #[.string ⟨eight.toArray⟩, .int .i64 1] w fun e w' => ∃ v', e = .returned (.tuple #[v', .int .i64 8]) ∧ OwnD w.heap.size 41 v' [[]] w w' := fun w => by
    have h0 : LM.scan ((1 : Nat) : Int) (⟨eight.toArray⟩ : ByteArray).data.toList = ([[]], 8) := LM.scan_empty
    have := Scan_any ⟨eight.toArray⟩ 1 (by omega) (by decide) (by rw [h0]; decide) w
    rw [h0] at this
    exact this
  have HS0 := Lib.hid hsc0
  clear h hok hL hsc0
  go_enter Tryd.func9, Tryd.ntmps9
  have hc8 := conv_eight w _ rfl
  go_upto_region 4 with (go_at_call 28; refine (HS0.out _).mono ?_; rintro e w1 ⟨v1, rfl, ho1⟩; obtain ⟨p1, c1, rfl⟩ := ho1.isSlice; have hb1 := below_box ho1.below; clear ho1)
  clear hc8
  go_upto_region 5 with (go_at_call 26; refine (HR.out _ hb1).mono ?_; rintro e w2 ⟨vd, vb, D, rfl, hdo, hdl, hat, hst, hcp, hb2⟩)
  obtain ⟨pd, cd, rfl, hdc⟩ : ∃ pd cd, vd = .slice pd D.length cd ∧ D.length ≤ cd := by
    obtain ⟨p, c, hv, _, hc, _⟩ := hat
    exact ⟨p, c, hv, hc⟩
  obtain ⟨pb, cb, rfl, hbc⟩ : ∃ pb cb, vb = .slice pb D.length cb ∧ D.length ≤ cb := by
    obtain ⟨p, c, hv, hc⟩ := hcp
    rw [List.length_map] at hv hc
    exact ⟨p, c, hv, hc⟩
  have hgood : ∀ W ∈ D, LM.Good 16 W := fun W hW => (hdo W hW).good
  have htiny := LM.tiny_bytes (L := D) (fun W hW => ⟨(hdo W hW).four, (hdo W hW).tiny⟩)
  have hbl : (LM.bytesOf D).length ≤ 140737488355328 := by omega
  obtain ⟨s, hs⟩ : ∃ s, s = allB D := ⟨_, rfl⟩
  have hsz : s.size = (LM.bytesOf D).length := by rw [hs]; exact allB_size D
  have hsl : s.data.toList = LM.bytesOf D := by rw [hs]; exact allB_list D
  have hJ := Join_any _ D w2 hst hcp hbl
  rw [← hs] at hJ
  have HJ := Lib.hid hJ
  have HSZ := Lib.hid hsz
  have HSL := Lib.hid hsl
  have HAT := Lib.hid hat
  have HST := Lib.hid hst
  have HG := Lib.hid hgood
  have HT := Lib.hid htiny
  have hs47 : s.size ≤ 140737488355328 := by omega
  have hb12 := below_then hb1 hb2
  clear hJ hsz hsl hat hst hcp hs hgood htiny hdo HR HS0
  go_upto_region 6 with (go_at_call 27; refine HJ.out.mono ?_; rintro e w3 ⟨rfl, hb3⟩; have hcv := run_bytes_of_string w3 9 66 5 s Tryd.underlying9 Tryd.underlying66 Tryd.underlying5)
  clear hcv
  obtain ⟨cap, hcap⟩ : ∃ cap, cap = grownCap w3 s.size 0 5 := ⟨_, rfl⟩
  have hcg : s.size ≤ cap := by rw [hcap]; exact grownCap_ge w3 _ _ _
  rw [← hcap]
  obtain ⟨W5, hW5⟩ : ∃ W, W = (w3.alloc (.cells (bytesRow s cap) 5 ((bytesRow s cap).size, (bytesRow s cap).size + 1))).drew := ⟨_, rfl⟩
  obtain ⟨bc, bf, hb5, hgs⟩ := bytes_box w3 W5 s cap _ hW5 hcg
  obtain ⟨G, hG⟩ : ∃ G, G = w3.heap.size := ⟨_, rfl⟩
  rw [← hW5, ← hG]
  rw [← hG] at bc bf hgs
  have hb25 := below_then hb3 hb5
  have hb15 := below_then hb12 hb25
  have HBC := Lib.hid bc
  have HBF := Lib.hid bf
  have hGw : w2.heap.size ≤ G := by rw [hG]; exact hb3.size
  clear hcap hcg hW5 hG bc bf hb3
  by_cases h0 : s.size = 0
  · have t0 : ((s.size : Int) == 0) = true := by simpa using h0
    clear h0
    go_wp2
    go_ret
    exact ⟨rfl, hb15⟩
  · have t0 : ((s.size : Int) == 0) = false := by simpa using h0
    have h0' : 0 < s.size := by omega
    clear h0
    by_cases hy : y = 0
    · subst hy
      go_wp2
      go_ret
      exact ⟨rfl, hb15⟩
    · have t1 : ((y.toNat : Int) == 0) = false := by
        have : y.toNat ≠ 0 := fun e => hy (UInt8.toNat_inj.1 e)
        simpa using this
      have HY := Lib.hid hy
      clear hy
      obtain ⟨k, hk⟩ : ∃ k : Nat, pick n (s.size : Int) = (k : Int) := ⟨(pick n (s.size : Int)).toNat, by have := pick_bd n (s.size : Int) (by omega); omega⟩
      have hks : k < s.size := by have := pick_bd n (s.size : Int) (by omega); omega
      have HK := Lib.hid hk
      clear hk
      obtain ⟨c, hc⟩ : ∃ c, s.data.toList[k]? = some c := ⟨_, List.getElem?_eq_getElem (by rw [len_eq]; exact hks)⟩
      have c0 := HBC.out k c hc
      have f0 := HBF.out k hks
      have HC := Lib.hid hc
      clear hc
      go_upto_region 10 with (go_at_call 11; refine (picked_any n _ hn (by omega) _).mono ?_; rw [HK.out]; rintro e w3 ⟨rfl, rfl⟩)
      obtain ⟨b', hb'⟩ : ∃ b' : UInt8, b' = c + y := ⟨_, rfl⟩
      have hbv : ((c.toNat : Int) + (y.toNat : Int)) % 256 = (b'.toNat : Int) := by rw [hb', UInt8.toNat_add]; omega
      have hbc' : b' ≠ c := by
        intro e
        rw [hb'] at e
        have := congrArg UInt8.toNat e
        rw [UInt8.toNat_add] at this
        have h1 := c.toNat_lt
        have h2 := y.toNat_lt
        have h3 : y.toNat ≠ 0 := fun e => HY.out (UInt8.toNat_inj.1 e)
        omega
      rw [hbv]
      obtain ⟨W6, hW6⟩ : ∃ W, W = W5.setCell ⟨G, k, none⟩ (.int .u8 (b'.toNat : Int)) := ⟨_, rfl⟩
      obtain ⟨l', hl'⟩ : ∃ l', l' = (LM.bytesOf D).set k b' := ⟨_, rfl⟩
      have hll : l'.length = s.size := by rw [hl', List.length_set, ← HSL.out, len_eq]
      have hcv : (convert 66 9 (.slice (some ⟨G, 0, none⟩) s.size cap)).run Tryd.prog W6 = .ok (.string ⟨l'.toArray⟩) W6 := by
        rw [← hll]
        refine run_convert_bytes_back (P := Tryd.prog) _ 66 9 5 ⟨G, 0, none⟩ cap l' Tryd.underlying66 Tryd.underlying5 Tryd.underlying9 ?_
        intro j hj
        rw [Addr.add_lit, Nat.zero_add, hW6]
        by_cases hjk : k = j
        · subst hjk
          rw [World.cell?_setCell_same _ _ _ c0]
          simp [hl']
        · rw [World.cell?_setCell_other _ _ _ _ (by intro e; cases e; exact hjk rfl)]
          have hj2 : j < (LM.bytesOf D).length := by rw [hl'] at hj; simpa using hj
          rw [HBC.out j ((LM.bytesOf D)[j]'hj2) (by rw [HSL.out]; exact List.getElem?_eq_getElem hj2)]
          simp [hl', List.getElem_set_ne hjk]
      have hb6 : Below w2.heap.size w2 W6 := by rw [hW6]; exact hb25.setCell (p := ⟨G, k, none⟩) hGw _
      have hb16 : Below w.heap.size w W6 := below_then hb12 hb6
      obtain ⟨m, hm⟩ : ∃ m, m = LM.fits D k := ⟨_, rfl⟩
      have hks2 : k < (LM.bytesOf D).length := by rw [← HSZ.out]; exact hks
      have hmlt : m < D.length := by
        have h1 := LM.fits_le D k
        have h2 := (LM.fits_spec D k).1
        by_cases he : LM.fits D k = D.length
        · rw [he, List.take_length] at h2; omega
        · omega
      have hsp := LM.scan_spoilt HG.out (m := m) (k := k) hmlt (by rw [hm]; exact (LM.fits_spec D k).1) (by subst hm; exact (LM.fits_spec D k).2 hmlt) (b := b') (c := c) (by rw [← HSL.out]; exact HC.out) hbc'
      rw [← hl'] at hsp
      have hcount : (LM.scan ((16 : Nat) : Int) l').1.length * 24 ≤ 140737488355328 := by
        have h1 := LM.scan_count ((16 : Nat) : Int) _ l' rfl
        have h2 := LM.count_set (LM.bytesOf D) k b'
        rw [← hl'] at h2
        have h3 := HT.out.2
        omega
      obtain ⟨R, hR⟩ : ∃ R, R = LM.scan ((16 : Nat) : Int) l' := ⟨_, rfl⟩
      have hsc : ∀ w, Calls Tryd.prog 28 #[.string ⟨l'.toArray⟩, .int .i64 16] w fun e w' => ∃ v', e = .returned (.tuple #[v', .int .i64 (R.2 : Int)]) ∧ OwnD w.heap.size 41 v' R.1 w w' := fun w => by
        have he : (⟨l'.toArray⟩ : ByteArray).data.toList = l' := by simp
        have := Scan_any ⟨l'.toArray⟩ 16 (by omega) (by show l'.toArray.size ≤ _; simp; omega) (by rw [he]; exact hcount) w
        rw [he, ← hR] at this
        exact this
      rw [← hR] at hsp hcount
      obtain ⟨RL, R2⟩ := R
      simp only at hsp hcount hsc
      have HSP := Lib.hid hsp
      have HSC := Lib.hid hsc
      have HM := Lib.hid hm
      have hmD : m ≤ D.length := by omega
      rw [← hW6]
      have hR2 : R2 ≤ 140737488355328 := by
        have h1 := LM.scan_le ((16 : Nat) : Int) _ l' rfl
        rw [← hR] at h1
        omega
      clear hsp hsc hm hW6 hl' hll hbv hbc' hb' c0 f0 hR hb5 hb25 hb15
      go_upto_region 11 with (go_at_call 28; refine (HSC.out _).mono ?_; rintro e w7 ⟨v7, rfl, ho7⟩; obtain ⟨p7, c7, rfl⟩ := ho7.isSlice; have HO := Lib.hid ho7; clear ho7)
      clear hcv
      have hb47 := HO.out.below
      have hb27 := below_then hb6 hb47
      have hb7 := below_then hb16 hb47
      have HD0 := Lib.hid (HAT.out.keep hb27)
      have HST4 := Lib.hid (HST.out.keep hb27)
      have hcell : ∀ (j : Nat) (W : List Wr), D[j]? = some W → ∃ b off, pb = some ⟨b, off, none⟩ ∧ b < w7.heap.size ∧ w7.cell? ⟨b, off + j, none⟩ = some (.string (recB W)) := by
        intro j W hW
        obtain ⟨p, c, he, _, _, hc⟩ := HST4.out
        simp only [List.length_map, Value.slice.injEq] at he
        obtain ⟨rfl, _, rfl⟩ := he
        exact hc j (recB W) (by rw [List.getElem?_map, hW]; rfl)
      have HCL := Lib.hid hcell
      have hrs : ∀ W : List Wr, (recB W).size = (LM.recL W).length := fun W => by simp [recB, ByteArray.size]
      obtain ⟨sums, hsums⟩ : ∃ f : Nat → Nat, f = fun j => (LM.bytesOf (D.take j)).length := ⟨_, rfl⟩
      have hsm : (LM.bytesOf (D.take m)).length = sums m := by rw [hsums]
      have hs0 : sums 0 = 0 := by rw [hsums]; rfl
      have hsb : ∀ j, sums j ≤ 140737488355328 := fun j => by rw [hsums]; exact Nat.le_trans (LM.bytes_take D j) hbl
      have hstep : ∀ (j : Nat) (W : List Wr), D[j]? = some W → sums (j + 1) = sums j + (recB W).size := fun j W hW => by rw [hsums, hrs]; exact LM.bytes_snoc hW
      have hmore : ∀ (j : Nat) (W : List Wr), j ≤ m → D[j]? = some W → (sums j + (recB W).size ≤ k ↔ j < m) := fun j W hj hW => by rw [hsums, hrs, HM.out]; exact LM.fits_more (by rw [← HM.out]; exact hj) hW
      have hsmk : sums m ≤ k := by rw [← hsm, HM.out]; exact (LM.fits_spec D k).1
      have hsp := HSP.out
      rw [hsm] at hsp
      have HSP2 := Lib.hid hsp
      have HS0 := Lib.hid hs0
      have HSB := Lib.hid hsb
      have HSTEP := Lib.hid hstep
      have HMORE := Lib.hid hmore
      have hk47 : k ≤ 140737488355328 := by omega
      clear hcell hrs hsums hsm hs0 hsb hstep hmore HAT HST HST4 hb1 hb2 hb12 hb6 hb16 hb27 hsp HSP hb47 hks2
      go_wp2
      go_loopw [15, 16] (fun a b wr => ∃ j : Nat, j ≤ m ∧ a = .int .i64 (j : Int) ∧ b = .int .i64 (sums j : Int) ∧ Below w7.heap.size w7 wr) (fun a _ _ => m - (intOf a).toNat)
      case atStart => exact ⟨0, Nat.zero_le _, rfl, by rw [HS0.out]; rfl, Below.refl _ _⟩
      case round =>
        obtain ⟨j, hj, rfl, rfl, hb⟩ := hrel
        obtain ⟨W, hW⟩ : ∃ W, D[j]? = some W := ⟨_, List.getElem?_eq_getElem (by omega)⟩
        obtain ⟨b, off, rfl, hbl', c0⟩ := HCL.out j W hW
        replace c0 := (hb.cell (p := ⟨b, _, none⟩) hbl').trans c0
        have h2 := HSTEP.out j W hW
        have h3 := HSB.out (j + 1)
        rw [h2] at h3
        have HN := Lib.hid h2
        have hmr := HMORE.out j W hj hW
        obtain ⟨S, hS⟩ : ∃ S, recB W = S := ⟨_, rfl⟩
        rw [hS] at c0 hmr h3 HN
        have hjD : j < D.length := by omega
        have t1 : decide (j < D.length) = true := by simpa using hjD
        have hi0 : (0 : Int) ≤ (j : Int) := by omega
        have hi1 : (j : Int) < (D.length : Int) := by omega
        have hw := IntWalk.i64_in ((sums j : Int) + (S.size : Int)) (by omega)
        clear hW h2 hS
        by_cases hlt : j < m
        · have h1 := hmr.2 hlt
          have t2 : decide ((sums j : Int) + (S.size : Int) ≤ (k : Int)) = true := by simp; omega
          clear hmr
          go_wp2
          all_goals
            go_roundw
            case rel => exact ⟨j + 1, by omega, by go_num, by rw [HN.out]; go_num, hb⟩
            case measure => simp [intOf]; omega
        · have h1 : ¬ sums j + S.size ≤ k := fun h => hlt (hmr.1 h)
          have t2 : decide ((sums j : Int) + (S.size : Int) ≤ (k : Int)) = false := by simp; omega
          have hjm : j = m := by omega
          clear hmr
          subst hjm
          have HB := Lib.hid hb
          have hb8 := below_then hb7 hb
          have hwk := IntWalk.i64_in ((k : Int) - (sums j : Int)) (by omega)
          by_cases hodd : k - sums j = 1 ∨ k - sums j = 2
          · have hle : sums j ≤ R2 := by have := HSP2.out; rw [if_pos hodd] at this; exact this
            have hle' : (sums j : Int) ≤ (R2 : Int) := by omega
            rcases hodd with ho | ho
            · have t3 : (k : Int) - (sums j : Int) = 1 := by omega
              clear ho
              go_wp2
              go_ret
              exact ⟨rfl, hb8⟩
            · have t3 : (k : Int) - (sums j : Int) = 2 := by omega
              clear ho
              go_wp2
              go_ret
              exact ⟨rfl, hb8⟩
          · have hpair : RL = D.take j ∧ R2 = sums j := by
              have := HSP2.out
              rw [if_neg hodd] at this
              simpa using this
            obtain ⟨rfl, rfl⟩ := hpair
            have t3 : (((k : Int) - (sums j : Int)) == 1) = false := by simp; omega
            have t4 : (((k : Int) - (sums j : Int)) == 2) = false := by simp; omega
            have ha2 := HO.out.deals (by rw [List.length_take]; omega)
            rw [List.length_take, Nat.min_eq_left hmD] at ha2
            have HA2 := Lib.hid ha2
            clear hodd ha2
            go_wp2_with (go_at_call 29; refine (sameDeals_any _ _ (D.take j) _ (HA2.out.keep HB.out) (DealsAt.take (HD0.out.keep HB.out) (by omega))).mono ?_; rintro e w9 ⟨rfl, hb9⟩)
            go_ret
            exact ⟨rfl, below_then hb8 hb9⟩
end Go.Proofs.YthjaanhkmfiajabDoor.logsSpoilt
