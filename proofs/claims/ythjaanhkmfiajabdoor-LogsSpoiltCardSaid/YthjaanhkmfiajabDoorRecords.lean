/- The statements' own records: transactions of raw things, and their records. Conditions: the numbers are ints, the slice is within reach. -/
import Derived.Test.YthjaanhkmfiajabDoorLogScan
import Derived.Test.YthjaanhkmfiajabDoorKeepWrites
namespace Go.Proofs.YthjaanhkmfiajabDoor
open Go.RowKit PM

def recB (W : List Wr) : ByteArray := ⟨(LM.recL W).toArray⟩
/-- what is told of each transaction -/
structure DealOk (W : List Wr) : Prop where
  good : LM.Good 16 W
  four : W.length ≤ 4
  tiny : ∀ x ∈ W, LM.Tiny x
theorem DealOk.of {W : List Wr} (h : WOk W 16) (ht : ∀ x ∈ W, TinyD x.data) (h4 : W.length ≤ 4) : DealOk W :=
  ⟨⟨wFault_of h, by omega⟩, h4, fun x hx => ⟨by have := h.all x hx; omega, (ht x hx).len, (ht x hx).no⟩⟩
theorem DealOk.ret {W : List Wr} (h : DealOk W) : recRet W 16 = .tuple #[.string (recB W), .int .i64 0] := if_pos h.good.ok

theorem OwnS.apart {B : Nat} {e d : TypeId} (hne : d ≠ e) {v b : Value} {Z : List ByteArray} {W0 w w' : World} (h : OwnS B e b Z W0 w) {size n : Nat} {xs : List Value} (hrow : w.ownsRow B d size v n xs) (hg : w.grownBy w' v.ownBlock) : OwnS B e b Z W0 w' := by
  obtain ⟨h1, h2, h3⟩ := h
  refine ⟨h1.kept hg ?_, h2.grown hg h3 (fun k hk => (hrow.lt k hk).1), Nat.le_trans h3 hg.size⟩
  cases hb : b.ownBlock with
  | none => exact .inl rfl
  | some g =>
    obtain ⟨cur, hc⟩ := row_type h1 g hb
    exact .inr (type_apart hne hrow hc)
theorem OwnD.row {B : Nat} {e : TypeId} {v : Value} {D : List (List Wr)} {W0 w : World} (h : OwnD B e v D W0 w) : ∃ vs, w.ownsRow B e 1 v D.length vs := by
  obtain ⟨vs, _, h1, _⟩ := h
  exact ⟨vs, h1⟩
theorem OwnD.apart {B : Nat} {e d : TypeId} (hne : d ≠ e) (hnw : d ≠ 48) {v b : Value} {D : List (List Wr)} {W0 w w' : World} (h : OwnD B e b D W0 w) {size n : Nat} {xs : List Value} (hrow : w.ownsRow B d size v n xs) (hg : w.grownBy w' v.ownBlock) : OwnD B e b D W0 w' := by
  obtain ⟨vs, hl, h1, h2, h3, h4, h5⟩ := h
  refine ⟨vs, hl, h1.kept hg ?_, h2.grown hg h3 (fun k hk => (hrow.lt k hk).1), Nat.le_trans h3 hg.size, h4, fun i u W hu hW => (h5 i u W hu hW).grown hnw hrow hg⟩
  cases hb : b.ownBlock with
  | none => exact .inl rfl
  | some g =>
    obtain ⟨cur, hc⟩ := row_type h1 g hb
    exact .inr (type_apart hne hrow hc)
theorem OwnS.isSlice {B : Nat} {e : TypeId} {v : Value} {Z : List ByteArray} {W0 w : World} (h : OwnS B e v Z W0 w) : ∃ p c, v = .slice p Z.length c := by
  rcases h.1.2 with ⟨rfl, hn⟩ | ⟨_, cap, _, rfl, _⟩
  · exact ⟨none, 0, by rw [hn]⟩
  · exact ⟨_, cap, rfl⟩
theorem infoStr : (Tryd.prog.info? 9).map (fun i => (i.zero, i.size, i.bytes)) = some (some (.string ⟨#[]⟩), 1, 16) := by kernel_rfl

/-- what records returns -/
def RecsRet (w : World) (e : Ending) (w' : World) : Prop :=
  ∃ v1 v2 D, e = .returned (.tuple #[v1, v2]) ∧ (∀ W ∈ D, DealOk W) ∧ D.length ≤ 1099511627744 ∧ DealsAt w' v1 D ∧ StrsAt w' v2 (D.map recB) ∧ (∃ p c, v2 = .slice p (D.map recB).length c ∧ (D.map recB).length ≤ c) ∧ Below w.heap.size w w'

set_option maxRecDepth 100000 in
set_option maxHeartbeats 2000000 in
theorem records_any (v : Value) (L : List Rw) (w : World) (h : RawsAt w v L) (hok : ∀ r ∈ L, RwOk r) (hL : L.length * 32 ≤ 140737488351232) :
    Calls Tryd.prog 26 #[v] w (RecsRet w) := by
  obtain ⟨i0, hi, hz0, hz1, hz2⟩ := info_parts infoWrites
  obtain ⟨i1, hj, hy0, hy1, hy2⟩ := info_parts infoStr
  obtain ⟨p, c, rfl⟩ := h.isSlice
  have HK := Lib.hid hok
  have HR := Lib.hid h
  clear hok h
  go_enter Tryd.func26, Tryd.ntmps26
  go_wp2
  go_loopw [0, 4, 5] (fun l a b wr => ∃ (L2 : List Rw) (D : List (List Wr)), RawsAt w l L2 ∧ (∀ r ∈ L2, RwOk r) ∧ 4 * D.length ≤ L.length + 3 ∧ (0 < L2.length → 4 * D.length + L2.length ≤ L.length) ∧ (∀ W ∈ D, DealOk W) ∧ OwnD w.heap.size 41 a D w wr ∧ OwnS w.heap.size 9 b (D.map recB) w wr) (fun l _ _ _ => lenOf l)
  case atStart => exact ⟨L, [], HR.out, HK.out, by simp, by simp, by simp, OwnD.nil (Below.refl _ _) (Nat.le_refl _), OwnS.nil (Below.refl _ _) (Nat.le_refl _)⟩
  case round =>
    obtain ⟨L2, D, hraw, hok, hcnt, hcnt2, hdo, hod, hos⟩ := hrel
    obtain ⟨pa, ca, rfl⟩ := hod.isSlice
    obtain ⟨Z, hZ⟩ : ∃ Z, Z = D.map recB := ⟨_, rfl⟩
    rw [← hZ] at hos
    have hZl : Z.length = D.length := by rw [hZ, List.length_map]
    obtain ⟨pb, cb, rfl⟩ := hos.isSlice
    have HZ := Lib.hid hZ
    have HZL := Lib.hid hZl
    have HOD := Lib.hid hod
    have HOS := Lib.hid hos
    have HDO := Lib.hid hdo
    clear hZ hZl hod hos hdo
    by_cases hlen : 0 < L2.length
    · obtain ⟨bq, off, c2, rfl, hlc, hcc⟩ := hraw.size hlen
      have hcnt3 := hcnt2 hlen
      obtain ⟨m, hm, hm1, hm2, hm4, hm3⟩ : ∃ m : Nat, min 4 (L2.length : Int) = (m : Int) ∧ 1 ≤ m ∧ m ≤ L2.length ∧ m ≤ 4 ∧ (m = 4 ∨ m = L2.length) := ⟨min 4 L2.length, by omega, by omega, by omega, by omega, by omega⟩
      have hZb : (Z.length + 1) * 16 ≤ 140737488355328 := by have := HZL.out; omega
      have hDb : (D.length + 1) * 24 ≤ 140737488355328 := by omega
      have HT := Lib.hid ((hraw.keep HOD.out.below).take hm2)
      have HD := Lib.hid (hraw.drop hm2)
      have HTK := Lib.hid (fun r hr => hok r (List.mem_of_mem_take hr) : ∀ r ∈ L2.take m, RwOk r)
      have HDK := Lib.hid (fun r hr => hok r (List.mem_of_mem_drop hr) : ∀ r ∈ L2.drop m, RwOk r)
      have HTL : Hid ((L2.take m).length ≤ 4) := (by rw [List.length_take]; omega : (L2.take m).length ≤ 4)
      have HM3 := Lib.hid hm3
      clear hraw hok hcnt2 hm3
      have hmc : m ≤ c2 := by omega
      go_wp2_with (first
        | (go_at_call 18; refine Calls.mono (Writes_full _ (L2.take m) 16 (by omega) _ HT.out HTK.out) ?_; rintro e w1 ⟨u, W, rfl, ho1, hwok, _, htd, hwl⟩; obtain ⟨p1, c1, rfl⟩ := ho1.isSlice; have HDL := Lib.hid (DealOk.of hwok htd (Nat.le_trans hwl HTL.out)); have HO1 := Lib.hid ho1; have hW12 := hwok.len; clear ho1 hwok htd hwl)
        | (go_at_call 55; refine Calls.mono (Record_any _ W 16 (by omega) _ (HO1.out.writes (by omega))) ?_; rw [HDL.out.ret]; rintro e w2 ⟨rfl, hb2⟩; have HOD2 := Lib.hid ((HOD.out.past HO1.out.below).past hb2); have HOS2 := Lib.hid ((HOS.out.past HO1.out.below).past hb2); have HIN := Lib.hid ((HO1.out.inner (by omega)).keep hb2); clear hb2)
        | (at_builtin; refine wpList_own_deal rfl (.tmp 27) (.tmp 29) 55 rfl w.heap.size 41 (by decide) i0 _ Tryd.underlying55 hi hz0 rfl hz1 hz2 _ D rfl w w2 _ W rfl HIN.out HOD2.out _ rfl (by simp) hDb ?_; intro v5 w5 ho5 hg5; have HOS5 := Lib.hid (HOS2.out.apart (by decide) HOD2.out.row.choose_spec hg5); have HOD5 := Lib.hid ho5; clear ho5 hg5)
        | (at_builtin; refine wpList_own_str rfl (.tmp 31) (.tmp 33) 45 rfl w.heap.size 9 i1 _ Tryd.underlying45 hj hy0 rfl hy1 hy2 _ Z rfl w _ _ HOS5.out _ rfl (by simp) hZb ?_; intro v6 w6 ho6 hg6; have HOD6 := Lib.hid (HOD5.out.apart (by decide) (by decide) HOS5.out.1 hg6); have HOS6 := Lib.hid ho6; clear ho6 hg6))
      go_roundw
      case rel =>
        refine ⟨L2.drop m, D ++ [W], HD.out, HDK.out, ?_, ?_, ?_, HOD6.out, ?_⟩
        · simp; omega
        · intro hpos
          have := HM3.out
          rw [List.length_drop] at hpos ⊢
          simp
          omega
        · intro V hV
          rcases List.mem_append.1 hV with hV | hV
          · exact HDO.out V hV
          · simp at hV; subst hV; exact HDL.out
        · have := HOS6.out
          rw [HZ.out] at this
          rw [List.map_append]
          exact this
      case measure => simp [lenOf]; omega
    · have hl0 : L2.length = 0 := by omega
      obtain ⟨p2, c2, rfl⟩ := hraw.isSlice
      rw [hl0]
      clear hraw hok hcnt2
      have hb := HOD.out.below
      go_wp2
      go_ret2
      have hcp : ∃ p c, Value.slice pb Z.length cb = .slice p Z.length c ∧ Z.length ≤ c := by
        rcases HOS.out.1.2 with ⟨e, hn⟩ | ⟨_, cap, _, e, _, _, hcap, _⟩
        · exact ⟨none, 0, by rw [e, hn], by omega⟩
        · exact ⟨_, cap, e, hcap⟩
      have hst := HOS.out.ints (by have := HZL.out; omega)
      refine ⟨_, _, D, rfl, HDO.out, by omega, HOD.out.deals (by omega), ?_, ?_, hb⟩
      · rw [HZ.out] at hst
        rw [HZ.out]
        exact hst
      · rw [HZ.out] at hcp
        rw [HZ.out]
        exact hcp
end Go.Proofs.YthjaanhkmfiajabDoor
