/- Package engine: crash: what it answers and leaves of the state. Condition: the number is an int. -/
import Derived.Test.YthjaanhkmfiajacEngReplay
import Derived.Test.YthjaanhkmfiajacEngSmall
import Derived.Test.YthjaanhkmfiajacEngPure
import Derived.Test.YthjaanhkmfiajacLogScan
namespace Go.Proofs.Ythjaanhkmfiajac
open Go.RowKit LM

/-- a method's end: two numbers, the state behind it -/
def ActRet2 (B : Nat) (W0 w : World) (g n : Nat) (s : EM.St) (a c : Int) (e : Ending) (w' : World) : Prop := e = .returned (.tuple #[.int .i64 a, .int .i64 c]) ∧ St B W0 w' g n s ∧ Soft w w'

section
variable {B : Nat} {W0 : World} {g n : Nat} {s : EM.St}

set_option maxRecDepth 100000 in
set_option maxHeartbeats 2000000 in
theorem crash_any (k : Int) (hk : -9223372036854775808 ≤ k ∧ k ≤ 9223372036854775807) (w : World) (h : St B W0 w g n s) :
    Calls Try.prog 24 #[.pointer (some ⟨g, 0, none⟩), .int .i64 k] w (ActRet2 B W0 w g n (EM.step s (EM.crash k)).1 (EM.step s (EM.crash k)).2.count (EM.step s (EM.crash k)).2.code) := by
  by_cases h0 : k < 0
  · have e : EM.step s (EM.crash k) = (s, EM.err 2) := by
      show (if k < 0 then _ else _) = _
      rw [if_pos h0]
    rw [e]
    go_enter Try.func24, Try.ntmps24
    go_wp2
    go_ret2
    exact ⟨rfl, h, Soft.refl _⟩
  · obtain ⟨kn, rfl⟩ : ∃ kn : Nat, k = (kn : Int) := ⟨k.toNat, by omega⟩
    have e := EM.step_crash s (k := (kn : Int)) (by omega)
    rw [Int.toNat_natCast] at e
    obtain ⟨hi, vi, vb, si, sb, wv, hc⟩ := h
    have hinv := EM.step_inv hi (EM.crash (kn : Int))
    rw [e] at hinv
    have hscan := crash_scan hi (k := kn)
    rw [e]
    obtain ⟨m, hm⟩ : ∃ m, m = s.last + fits (s.deals.drop s.last) kn := ⟨_, rfl⟩
    rw [← hm] at hinv hscan ⊢
    have hmle : m ≤ s.deals.length := by
      have := fits_le (s.deals.drop s.last) kn
      rw [List.length_drop] at this
      have := hi.last
      omega
    obtain ⟨du, hdu⟩ : ∃ du, du = durN s := ⟨_, rfl⟩
    obtain ⟨LG, hLG⟩ : ∃ LG, LG = logB s := ⟨_, rfl⟩
    have hlgs : LG.size = (bytesOf s.deals).length := by rw [hLG]; exact log_size s
    have hlgl : LG.data.toList = bytesOf s.deals := by rw [hLG]; simp [logB]
    have hdl : du ≤ LG.size := by rw [hdu, hlgs]; exact dur_le s
    have hl4 : LG.size ≤ 4000 := by rw [hlgs]; exact hi.log
    obtain ⟨left, hleft1, hleft2, hleft3⟩ : ∃ left : Nat, (left : Int) = (du : Int) + min (kn : Int) ((LG.size : Int) - (du : Int)) ∧ left = du + min kn (LG.size - du) ∧ left ≤ LG.size := ⟨du + min kn (LG.size - du), by omega, rfl, by omega⟩
    have hex : (LG.extract 0 left).data.toList = (bytesOf s.deals).take left := by rw [← hlgl]; simp
    have hls : scan n ((bytesOf s.deals).take left) = (s.deals.take m, (bytesOf (s.deals.take m)).length) := by
      rw [hleft2, hlgs, hdu]
      exact hscan
    have hn32 := hi.n32
    have hcnt : s.deals.length * 7 ≤ (bytesOf s.deals).length := by
      have : ∀ D : List (List Wr), D.length * 7 ≤ (bytesOf D).length := by
        intro D
        induction D with
        | nil => simp
        | cons W D ih => rw [bytes_cons, rec_len, List.length_cons]; omega
      exact this _
    have hsc : ∀ w, Calls Try.prog 40 #[.string (LG.extract 0 left), .int .i64 (n : Int)] w fun e w' => ∃ v', e = .returned (.tuple #[v', .int .i64 ((bytesOf (s.deals.take m)).length : Int)]) ∧ OwnD w.heap.size 37 v' (s.deals.take m) w w' := fun w => by
      have := Scan_any (LG.extract 0 left) n hn32.2 (by simp; omega) (by rw [hex, hls]; simp only [List.length_take]; omega) w
      rw [hex, hls] at this
      exact this
    have hal := hi.each.take m
    have hvb := hi.base
    have hsz := hi.base.small
    obtain ⟨DM, hDM⟩ : ∃ DM, DM = s.deals.take m := ⟨_, rfl⟩
    have hdm : DM.length = m := by rw [hDM, List.length_take]; omega
    have hdm4 : DM.length ≤ 4000 := by omega
    rw [← hDM] at hsc hinv hls hal ⊢
    have c4 := hc.c4
    have c5 := hc.c5
    have c3 := hc.c3
    obtain ⟨pz, cz, hsb, hzl⟩ : ∃ pz cz, sb = .slice pz n cz ∧ s.base.blocks.length = n := by
      obtain ⟨_, _, q, d, _, h2⟩ := hc.saved.slices
      exact ⟨q, d, by rw [h2, hi.len], hi.len⟩
    subst hsb
    rw [← hdu] at c5
    rw [← hLG] at c4
    have HC := Lib.hid hc
    have HI := Lib.hid hi
    have HLG := Lib.hid hLG
    have HDU := Lib.hid hdu
    have HM := Lib.hid hm
    have HL1 := Lib.hid hleft1
    have HSC := Lib.hid hsc
    have HINV := Lib.hid hinv
    have HLL := Lib.hid hlgl
    have HAL := Lib.hid hal
    have HVB := Lib.hid hvb
    have HDM := Lib.hid hDM
    have HML := Lib.hid hdm
    clear hal hvb hDM hdm hc hi hscan hlgs hlgl hex hls hleft1 hleft2 hsc hinv hcnt hLG hdu hm hzl e
    have hk0 : (0 : Int) ≤ (kn : Int) := by omega
    have hw1 := IntWalk.i64_in ((LG.size : Int) - (du : Int)) (by omega)
    have hw2 := IntWalk.i64_in ((du : Int) + min (kn : Int) ((LG.size : Int) - (du : Int))) (by omega)
    go_enter Try.func24, Try.ntmps24
    go_wp2
    go_quiet (fail)
    clear hw1 hw2
    rw [show ((du : Int) + if (LG.size : Int) - (du : Int) < (kn : Int) then (LG.size : Int) - (du : Int) else (kn : Int)) = (left : Int) by have := HL1.out; split <;> omega]
    generalize (if (LG.size : Int) - (du : Int) < (kn : Int) then (LG.size : Int) - (du : Int) else (kn : Int)) = mn
    obtain ⟨w0, hw0⟩ : ∃ w0, w0 = w.drewN nq := ⟨_, rfl⟩
    have hb0 : Below w.heap.size w w0 := by rw [hw0]; exact below_dr (Below.refl _ _) _
    rw [← hw0]
    have hc0 := HC.out.keep hb0
    have d3 := hc0.c3
    have d4 := hc0.c4
    rw [← HLG.out] at d4
    have HC0 := Lib.hid hc0
    clear hw0 c3 c4 c5 hc0
    have hleft4 : (0 : Int) ≤ (left : Int) := by omega
    have hleft5 : (left : Int) ≤ (LG.size : Int) := by omega
    have hgl := HC0.out.lt
    go_wp2
    go_region_held3 (fun w' => w'.cell? ⟨g, 3, none⟩ = some (.slice pz n cz) ∧ w'.cell? ⟨g, 4, none⟩ = some (.string LG)) (first | exact ⟨k3, k4⟩ | go_keep)
      ((go_at_call 40; refine (HSC.out _).mono ?_; rintro e w2 ⟨v2, rfl, ho2⟩; obtain ⟨p2, c2, rfl⟩ := ho2.isSlice; have hb2 : Below w0.heap.size w0 w2 := below_then (Below.refl _ _).drew ho2.below; have hc2 := HC0.out.keep hb2; have k3 := hc2.c3; have k4 := hc2.c4; rw [← HLG.out] at k4; have k2 := hc2.c2; have HC2 := Lib.hid hc2; have HO2 := Lib.hid ho2; clear ho2 hc2))
    have hb02 := below_then hb0 hb2
    clear hb2 k3 k4
    have hrp := replay_any _ _ _ s.base DM w2 HC2.out.saved (HO2.out.deals (by omega)) HVB.out HAL.out
    obtain ⟨ps, cs, _, _, rfl, _⟩ := HC2.out.saved.slices
    have k3 := HC2.out.c3
    have HRP := Lib.hid hrp
    clear hrp
    go_upto_region 8 with (go_at_call 41; refine HRP.out.mono ?_; rintro e w3 ⟨x, y, rfl, hty, hb3⟩; obtain ⟨px, cx, py, cy, rfl, rfl⟩ := hty.slices; have HTY := Lib.hid hty; clear hty)
    have hty := HTY.out
    have hvn := (HAL.out.ok HVB.out).1.small
    obtain ⟨VN, hVN⟩ : ∃ X, X = EM.after s.base DM := ⟨_, rfl⟩
    rw [← hVN] at hty hvn ⊢
    have hszb : (bytesOf DM).length ≤ LG.size := by
      have h1 := bytes_take s.deals m
      rw [← HDM.out, ← HLL.out, len_eq] at h1
      exact h1
    obtain ⟨sz, hszv⟩ : ∃ sz, sz = (bytesOf DM).length := ⟨_, rfl⟩
    rw [← hszv] at hszb ⊢
    obtain ⟨G9, hG9⟩ : ∃ G, G = w3.heap.size := ⟨_, rfl⟩
    obtain ⟨W4, hW4⟩ : ∃ W, W = w3.alloc (.cells #[.slice px VN.items.length cx, .slice py VN.blocks.length cy] 27) := ⟨_, rfl⟩
    have hbox : VBox W4 G9 (.slice px VN.items.length cx) (.slice py VN.blocks.length cy) := by rw [hW4, hG9]; exact VBox.new _ _ _
    have hal4 : Below w3.heap.size w3 W4 := by rw [hW4]; exact below_alloc (Below.refl _ _) _
    have hty4 := hty.keep hal4
    have hc4 := (HC2.out.keep hb3).keep hal4
    have hb04 := below_then hb02 (below_then hb3 hal4)
    rw [← hG9, ← hW4]
    have HB4 := Lib.hid hbox
    have HT4 := Lib.hid hty4
    have HC4 := Lib.hid hc4
    have HVN := Lib.hid hVN
    have HSZ := Lib.hid hszv
    have hsz0 : (0 : Int) ≤ (sz : Int) := by omega
    have hsz1 : (sz : Int) ≤ (LG.size : Int) := by omega
    clear hty hbox hty4 hc4 hal4 hG9 hW4 hVN hszv HTY HRP HC2 HO2 k2 k3 hb02 hb3
    go_upto_region 9 with (go_at_call 37; refine (end_any _ HC4.out).mono ?_; rintro e w5 ⟨rfl, hc5, hs5, _⟩)
    have hb5 : VBox w5 G9 (.slice px VN.items.length cx) (.slice py VN.blocks.length cy) := hs5.cells HB4.out (by decide) (by decide)
    obtain ⟨e0, e1, _, _⟩ := hb5.at
    have hty5 := HT4.out.soft hs5
    have h1 := hc5.setVol hty5
    have hne : g ≠ G9 := by
      intro he
      obtain ⟨cur, fr, hk⟩ := hc5.ty
      unfold VBox at hb5
      rw [he, hb5] at hk
      simp only [Option.some.injEq, Obj.cells.injEq] at hk
      exact absurd hk.2.1 (by decide)
    have d0 := hc5.c0
    have d1 := hc5.c1
    have d4 := hc5.c4
    have d5 := hc5.c5
    rw [← HLG.out] at d4
    have f0 := hc5.fz 0
    have f1 := hc5.fz 1
    have f4 := hc5.fz 4
    have f5 := hc5.fz 5
    have h2 := h1.setLog (LG.extract 0 sz)
    have h3 := h2.setDur (sz : Int)
    have H3 := Lib.hid h3
    have HS := Lib.hid (((Soft.of_below hb04).trans hs5).trans ((hc5.soft2 0 1 (.slice px VN.items.length cx) (.slice py VN.blocks.length cy)).trans ((h1.soft 4 (.string (LG.extract 0 sz))).trans (h2.soft 5 (.int .i64 (sz : Int))))))
    clear hty5 h1 h2 h3 hs5 hc5 hb5
    go_wp2
    go_ret2
    refine ⟨by rw [HML.out]; rfl, ⟨HINV.out, ?_⟩, HS.out⟩
    have e1 : (⟨s.base, DM, m, false, []⟩ : EM.St).now = VN := HVN.out.symm
    have e2 : logB ⟨s.base, DM, m, false, []⟩ = LG.extract 0 sz := by
      apply ByteArray.ext
      apply Array.toList_inj.1
      rw [show (LG.extract 0 sz).data.toList = LG.data.toList.take sz by simp, HLL.out]
      show (bytesOf DM).toArray.toList = _
      rw [HSZ.out, HDM.out, bytes_head]
    have e3 : durN ⟨s.base, DM, m, false, []⟩ = sz := by
      show (bytesOf (DM.take m)).length = sz
      rw [List.take_of_length_le (by have := HML.out; omega), HSZ.out]
    rw [e1, e2, e3]
    exact ⟨_, _, _, _, _, H3.out⟩
end
end Go.Proofs.Ythjaanhkmfiajac
