/- TopPrefix, walked. No condition but that the numbers are ints. -/
import Derived.Test.YthjaanhkmfiajacGreatDoorTopMore
namespace Go.Proofs.YthjaanhkmfiajacGreatDoor
open Go Go.RowKit
theorem OwnR.capped {α : Type} {enc : α → List Value} {k B : Nat} {e : TypeId} {v : Value} {L : List α} {W0 w : World} (h : OwnR enc k B e v L W0 w) : ∃ p c, v = .slice p L.length c ∧ L.length ≤ c := by
  rcases h.1.2 with ⟨rfl, hn⟩ | ⟨_, cap, _, rfl, _, _, hcap, _⟩
  · exact ⟨none, 0, by rw [hn], by omega⟩
  · exact ⟨_, cap, rfl, hcap⟩
end Go.Proofs.YthjaanhkmfiajacGreatDoor
namespace Go.Proofs.YthjaanhkmfiajacGreatDoor.topPrefix
open Go Go.RowKit

theorem prefix_of {A : List EM.Act} {H : List (List ByteArray)} {la : Nat} (h : StK A A.length H la) {k : Int} (hk : 0 ≤ k) :
    ∃ (m : Nat) (z : EM.Ans), (EM.runL (EM.start 8) (A ++ [EM.crash k])).2[A.length]? = some z ∧ z.count = (m : Int) ∧ la ≤ m ∧ m < H.length ∧ H[m]? = some (rds (EM.runL (EM.start 8) (A ++ [EM.crash k])).1.now) := by
  obtain ⟨hH, hla⟩ := h
  rw [List.take_length] at hH hla
  obtain ⟨m, h1, h2, h3, h4⟩ := EM.crash_prefix (inv8 A).last hk
  rw [← hH] at h3 h4
  rw [← hla] at h2
  rw [run_append]
  exact ⟨m, _, ans_at (i := 0) rfl, h1, h2, h3, h4⟩

set_option maxRecDepth 100000 in
set_option maxHeartbeats 4000000 in
theorem walk (v : Value) (L : List Rw) (n : Int) (w : World) (h : RawsAt w v L) (hok : ∀ r ∈ L, RwOk r) (hn : -9223372036854775808 ≤ n ∧ n ≤ 9223372036854775807) :
    Calls Tryz.prog 4 #[v, .int .i64 n] w fun e w' => e = .returned (.bool true) ∧ Below w.heap.size w w' := by
  obtain ⟨i0, hi, hz0, hz1, hz2⟩ := info_parts infoAct
  have hA := quiet_any v L w h hok
  obtain ⟨kk, hkk, hk50⟩ := pick_nat n 400 (by omega)
  have hP := fun w => Picked_any n 400 hn (by omega) w
  rw [hkk] at hP
  have HP := Lib.hid hP
  have HA := Lib.hid hA
  clear h hok hA hn hkk hP
  go_enter Tryz.func4, Tryz.ntmps4
  go_upto_region 2 with (go_at_call 19; refine HA.out.mono ?_; rintro e w1 ⟨v1, A, rfl, ho1, hl1, hg1, hq1⟩; obtain ⟨p1, c1, rfl, hcap⟩ := ho1.capped)
  have hb1 : Below w.heap.size w w1 := ho1.below
  have HRA1 := Lib.hid (ho1.rows actE (by omega))
  have HG := Lib.hid hg1
  have HQ := Lib.hid hq1
  clear ho1 hg1 hq1 HA
  go_upto_region 3 with (go_at_call 20; refine (states_any p1 c1 A _ HRA1.out hcap hl1 HG.out HQ.out).mono ?_; rintro e w2 ⟨v2, H, la, rfl, hK, hS, hb12⟩; obtain ⟨p2, c2, rfl, hHl, hHc, hc2⟩ := id hS)
  have hb2 := below_then hb1 hb12
  have HRA2 := Lib.hid (HRA1.out.keep hb12)
  obtain ⟨m, z, hz, hzc, hm1, hm2, hm3⟩ := prefix_of hK (k := (kk : Int)) (by omega)
  obtain ⟨g2, o2, u, rfl, hg2, hcu, hsu⟩ := hc2 m _ hm3
  have HZ := Lib.hid hz
  have HZC := Lib.hid hzc
  have HSU := Lib.hid hsu
  clear hz hzc hsu hm3 hc2 hS hK hb12 hb1 HRA1 HQ
  go_upto_region 4 with (first
    | (go_at_call 15; refine (CloneA_any _ A _ HRA2.out (by omega)).mono ?_; rintro e w3 ⟨v3, rfl, ho3⟩; obtain ⟨p3, c3, rfl⟩ := ho3.isSlice; have HO3 := Lib.hid ho3; clear ho3)
    | (go_at_call 23; refine (HP.out _).mono ?_; rintro e wp ⟨rfl, hb3p⟩; have HOP := Lib.hid (HO3.out.past hb3p); clear hb3p)
    | (go_at_call 22; refine (crash_c (kk : Int) _).mono ?_; rintro e w4 ⟨rfl, hb34⟩; have HO4 := Lib.hid (HOP.out.past hb34); clear hb34)
    | (at_builtin; refine wpList_own_r actE rfl (.tmp 23) (.tmp 27) 23 rfl _ 36 i0 _ 40 Tryz.underlying23 hi hz0 rfl hz1 hz2 _ A rfl w2 _ (EM.crash (kk : Int)) _ rfl HO4.out _ rfl (by simp) (by omega) (by omega) ?_; intro v5 w5 ho5 hg5; have HO5 := Lib.hid ho5; clear ho5 hg5 HO4 HO3 HOP)
    | (go_at_call 21; refine (run_at _ (A ++ [EM.crash (kk : Int)]) (by simp; omega) (ActOk.append HG.out (by simpa using crash_ok (by omega))) _ (HO5.out.rows actE (by simp; omega))).mono ?_; rintro e w10 ⟨v10, x10, y10, rfl, ha10, hv10, hb910⟩; obtain ⟨px, cx, qx, dx, rfl, rfl⟩ := hv10.slices; obtain ⟨bz, oz, cz, rfl, hbz, _, _, _, _, z0⟩ := ans_cells ha10 HZ.out; rw [EM.runL_len, List.length_append]))
  have hiv := (inv8 (A ++ [EM.crash (kk : Int)])).now
  have HSU' := HSU.out
  generalize (EM.runL (EM.start 8) (A ++ [EM.crash (kk : Int)])).1.now = V at hiv hv10 HSU' ⊢
  rw [HZC.out] at z0
  obtain ⟨W11, hW11⟩ : ∃ W, W = w10.alloc (.cells #[.slice px V.items.length cx, .slice qx V.blocks.length dx] 30) := ⟨_, rfl⟩
  obtain ⟨G10, hG10⟩ : ∃ G, G = w10.heap.size := ⟨_, rfl⟩
  have hal : Below w10.heap.size w10 W11 := by rw [hW11]; exact below_alloc (Below.refl _ _) _
  have hbx : VBox W11 G10 (.slice px V.items.length cx) (.slice qx V.blocks.length dx) := by rw [hW11, hG10]; exact VBox.new _ _ _
  have hb211 : Below w2.heap.size w2 W11 := below_then (below_then HO5.out.below hb910) hal
  have hb11 := below_then hb2 hb211
  have z1 := (hal.cell (p := ⟨bz, _, none⟩) hbz).trans z0
  have u1 := (hb211.cell (p := ⟨g2, _, none⟩) hg2).trans hcu
  have hg2' := Nat.lt_of_lt_of_le hg2 hb211.size
  have HSU11 := Lib.hid (HSU'.keep hb211)
  have HV11 := Lib.hid (hv10.keep hal)
  have HIV := Lib.hid hiv
  obtain ⟨k0, k1, _, _⟩ := hbx.at
  have hGl := hbx.lt
  rw [← hW11, ← hG10]
  have hj0 : (0 : Int) ≤ (A.length : Int) := by omega
  have hj1 : (A.length : Int) < (A.length : Int) + 1 := by omega
  clear HSU HSU' hiv hv10 z0 hal hb211 hb2 HRA2 HO5 hb910 hW11 hG10 hbx hcu hg2 HP HG HZ HZC hbz ha10
  go_upto_region 7 with (fail)
  have hge : (la : Int) ≤ (m : Int) := by omega
  have hlt2 : (m : Int) < (H.length : Int) := by omega
  have hm0 : (0 : Int) ≤ (m : Int) := by omega
  have HK0 := Lib.hid k0
  have HK1 := Lib.hid k1
  have HU1 := Lib.hid u1
  go_region_held3 (fun w' => w'.cell? ⟨g2, o2 + m, none⟩ = some u ∧ w'.cell? ⟨G10, 0, none⟩ = some (.slice px V.items.length cx) ∧ w'.cell? ⟨G10, 1, none⟩ = some (.slice qx V.blocks.length dx))
    (first | with_reducible exact ⟨q0, q1, q2⟩ | with_reducible exact ⟨r0, r1, r2⟩ | go_keep)
    (first
      | (go_at_call 25; refine (Reads_any _ V _ (HV11.out.keep (Below.refl _ _).drew).at HIV.out.1).mono ?_; rintro e w12 ⟨v12, rfl, ho12⟩; have hb12 : Below W11.heap.size W11 w12 := below_then (Below.refl _ _).drew ho12.below; have q0 := (hb12.cell (p := ⟨g2, o2 + m, none⟩) hg2').trans HU1.out; have q1 := (hb12.cell (p := ⟨G10, 0, none⟩) hGl).trans HK0.out; have q2 := (hb12.cell (p := ⟨G10, 1, none⟩) hGl).trans HK1.out; have HS12 := Lib.hid (ho12.ints (by rw [rds_len, HIV.out.2]; decide)); have HSU12 := Lib.hid (HSU11.out.keep hb12); have HB12 := Lib.hid hb12; clear ho12 hb12)
      | (go_at_call 24; refine (EqualS_any _ _ (rds V) _ HS12.out HSU12.out).mono ?_; rintro e w13 ⟨rfl, hb13'⟩; have hb13 := HB12.out.trans (hb13'.mono HB12.out.size); have r0 := (hb13.cell (p := ⟨g2, o2 + m, none⟩) hg2').trans HU1.out; have r1 := (hb13.cell (p := ⟨G10, 0, none⟩) hGl).trans HK0.out; have r2 := (hb13.cell (p := ⟨G10, 1, none⟩) hGl).trans HK1.out; have HB13 := Lib.hid hb13; clear hb13 hb13'))
  all_goals
    go_wp2
    go_ret
    exact ⟨rfl, below_then hb11 HB13.out⟩
end Go.Proofs.YthjaanhkmfiajacGreatDoor.topPrefix
