/- volume.emptyBlock and volume.fillBlock: what they return and leave in the volume's box. Condition: as their statements list. -/
import Derived.Test.YthjaanhkmfiajacPure
import Derived.Test.YthjaanhkmfiajacRepoDrop
import Derived.Test.YthjaanhkmfiajacRepoKeeping
import Derived.Deep.RegionWith
namespace Go.Proofs.Ythjaanhkmfiajac
open Go.RowKit

theorem drop_found {V : Vol} (h : VOk V) {z : Int} (hz : z ∈ V.blocks) (h0 : z ≠ -1) : (dropped V.items z).2 = 0 := by
  rcases h.blk z hz with h1 | ⟨x, hx, hid⟩
  · exact absurd h1 h0
  · obtain ⟨k, hk⟩ := Option.isSome_iff_exists.1 (pos_mem.2 ⟨x, hx, hid⟩)
    obtain ⟨y, hy, _⟩ := pos_lt hk
    unfold dropped
    rw [got_some h.may hk hy, if_neg (by simp)]

/-- what either returns: the error's number, the box's new volume -/
def BlockRet (B O R g cap : Nat) (V : Vol) (n : Int) (w : World) (e : Ending) (w' : World) : Prop := e = .returned (.int .i64 n) ∧ ∃ vi, ApSt B O R g cap w' vi V ∧ Below B w w'
theorem ApSt.le {B O R g cap : Nat} {wr : World} {vi : Value} {V : Vol} (h : ApSt B O R g cap wr vi V) : B ≤ wr.heap.size := by
  have := h.hO; have := h.hg; have := h.hgO; omega
theorem below_step {B O g m : Nat} {w w5 : World} {a b : Value} (hb : Below w.heap.size w w5) (hB : B ≤ w.heap.size) (hg : B ≤ g) (hO : B ≤ O) : Below B w ((w5.setCell ⟨O, 0, none⟩ a).setCell ⟨g, m, none⟩ b) :=
  ((hb.mono hB).setCell (p := ⟨O, 0, none⟩) hO a).setCell (p := ⟨g, m, none⟩) hg b

set_option maxRecDepth 100000 in
set_option maxHeartbeats 2000000 in
theorem emptyBlock_any (B O R g cap : Nat) (w : World) (vi : Value) (V : Vol) (h : ApSt B O R g cap w vi V) (hV : VOk V) (m : Nat) (hm : m < V.blocks.length) :
    Calls Try.prog 59 #[.pointer (some ⟨O, 0, none⟩), .int .i64 (m : Int)] w (BlockRet B O R g cap (dropW V ⟨(m : Int), ⟨#[]⟩⟩) 0 w) := by
  obtain ⟨z, hz⟩ : ∃ z, V.blocks[m]? = some z := ⟨V.blocks[m], List.getElem?_eq_getElem hm⟩
  obtain ⟨d0, fz⟩ := h.block hz
  have o0 := h.o0
  have o1 := h.o1
  have fo := h.fo
  have hzm : V.blocks[((⟨(m : Int), ⟨#[]⟩⟩ : Wr).block).toNat]? = some z := by simpa using hz
  have hlen := hV.len.2
  have hi0 : (0 : Int) ≤ (m : Int) := by omega
  have hi1 : (m : Int) < (V.blocks.length : Int) := by omega
  have HST := Lib.hid h
  obtain ⟨pv, cv, rfl⟩ := h.isSlice
  by_cases h0 : z = -1
  · have hd := dropW_none hzm (by omega)
    rw [hd]
    have ht : (z == -1) = true := by simpa using h0
    clear hd hzm h0 hz h
    go_enter Try.func59, Try.ntmps59
    go_wp2
    go_ret
    exact ⟨rfl, _, HST.out, Below.refl _ _⟩
  · have hz0 : 0 ≤ z := by
      rcases hV.blk z (List.mem_of_getElem? hz) with h1 | ⟨x, hx, hid⟩
      · exact absurd h1 h0
      · have := (may_mem hV.may hx).1; omega
    have hd := dropW_some hzm hz0
    simp only [Int.toNat_natCast] at hd
    rw [hd]
    have hil := may_len hV.may
    have hdr := drop_found hV (List.mem_of_getElem? hz) h0
    have HDR := Lib.hid hdr
    have HZ := Lib.hid hz
    have ht : (z == -1) = false := by simpa using h0
    clear hd hzm h0 hz hdr h
    go_enter Try.func59, Try.ntmps59
    go_wp2_with (go_at_call 73; refine (Drop_any _ V.items z _ (HST.out.items (by omega))).mono ?_; rw [HDR.out]; rintro e w5 ⟨v5, rfl, hown5⟩; obtain ⟨p5, c5, rfl⟩ := hown5.isSlice; have st5 := HST.out.past hown5.below; have p0 := st5.o0; have p1 := st5.o1; have pf := st5.fo; obtain ⟨pb, pbf⟩ := st5.block HZ.out; have hgO := st5.hgO; have hgO1 : ¬ g = O := (by omega); have hgO2 : ¬ O = g := (by omega); have HOWN5 := Lib.hid hown5; clear hown5 st5 hgO)
    go_ret
    exact ⟨rfl, _, HST.out.step HOWN5.out hm (-1), below_step HOWN5.out.below HST.out.le HST.out.hg (by have := HST.out.hg; have := HST.out.hgO; omega)⟩

theorem size_nil {d : ByteArray} (h : ¬ 0 < d.size) : d.toList.isEmpty = true := by
  rw [ByteArray.toList_eq, List.eq_nil_of_length_eq_zero (l := d.data.toList) (by have h3 : d.data.toList.length = d.size := Array.length_toList; omega)]; rfl
theorem size_cons {d : ByteArray} (h : 0 < d.size) : d.toList.isEmpty = false := by
  rw [ByteArray.toList_eq]
  cases hl : d.data.toList with
  | nil => have h3 : d.data.toList.length = d.size := Array.length_toList; rw [hl] at h3; simp at h3; omega
  | cons c t => rfl

set_option maxRecDepth 100000 in
set_option maxHeartbeats 2000000 in
theorem fill_none (B O R g cap : Nat) (w : World) (vi : Value) (V : Vol) (h : ApSt B O R g cap w vi V) (n : Int) (d : ByteArray) (hd : ¬ 0 < d.size) :
    Calls Try.prog 60 #[.pointer (some ⟨O, 0, none⟩), .agg #[.int .i64 n, .string d]] w (BlockRet B O R g cap V 0 w) := by
  have ht := size_nil hd
  have HST := Lib.hid h
  clear hd h
  go_enter Try.func60, Try.ntmps60
  go_wp2
  go_ret
  exact ⟨rfl, _, HST.out.past (below_alloc (Below.refl _ _) _), (Below.refl _ _).alloc HST.out.le _⟩

set_option maxRecDepth 100000 in
set_option maxHeartbeats 2000000 in
theorem fill_err (B O R g cap : Nat) (w : World) (vi : Value) (V : Vol) (h : ApSt B O R g cap w vi V) (hil : V.items.length ≤ 1000) (n : Int) (d : ByteArray) (hd : 0 < d.size) (k : Int) (hk : (kept V.items d).2.2 = k) (h0 : k ≠ 0) :
    Calls Try.prog 60 #[.pointer (some ⟨O, 0, none⟩), .agg #[.int .i64 n, .string d]] w (BlockRet B O R g cap V k w) := by
  have ht := size_cons hd
  have ht2 : (k != 0) = true := by simpa using h0
  have HST := Lib.hid (h.past (below_alloc (Below.refl _ _) (.cells #[.int .i64 n, .string d] 61)))
  have HB := h.le
  have o0 := h.o0
  have fo := h.fo
  have HK := Lib.hid hk
  obtain ⟨pv, cv, rfl⟩ := h.isSlice
  have hO := h.hO
  have hO1 : ¬ O = w.heap.size := by omega
  have hO2 : ¬ w.heap.size = O := by omega
  clear hd h hk h0
  go_enter Try.func60, Try.ntmps60
  go_wp2
  go_region_with (go_at_call 74; refine (Keep_any _ V.items d _ (HST.out.drew.items hil)).mono ?_; rw [HK.out]; rintro e w5 ⟨v5, rfl, hown5⟩; have HB5 := Lib.hid hown5.below; clear hown5)
  all_goals
    go_wp2
    go_ret
    exact ⟨rfl, _, HST.out.drew.past HB5.out, ((Below.refl _ _).alloc HB _).drew.trans (HB5.out.mono (by simp; omega))⟩

set_option maxRecDepth 100000 in
set_option maxHeartbeats 2000000 in
theorem fill_ok (B O R g cap : Nat) (w : World) (vi : Value) (V : Vol) (h : ApSt B O R g cap w vi V) (hil : V.items.length ≤ 1000) (m : Nat) (hm : m < V.blocks.length) (d : ByteArray) (hd : 0 < d.size) (M : List It) (id : Int) (hk : kept V.items d = (M, id, 0)) :
    Calls Try.prog 60 #[.pointer (some ⟨O, 0, none⟩), .agg #[.int .i64 (m : Int), .string d]] w (BlockRet B O R g cap ⟨M, V.blocks.set m id⟩ 0 w) := by
  have ht := size_cons hd
  have hb0 := below_alloc (Below.refl w.heap.size w) (.cells #[.int .i64 (m : Int), .string d] 61)
  have HST := Lib.hid (h.past hb0)
  have HB := h.le
  have HBG := h.hg
  have o0 := h.o0
  have o1 := h.o1
  have fo := h.fo
  have HK := Lib.hid hk
  obtain ⟨pv, cv, rfl⟩ := h.isSlice
  have hO := h.hO
  have hO1 : ¬ O = w.heap.size := by omega
  have hO2 : ¬ w.heap.size = O := by omega
  have hgO := h.hgO
  have hgO1 : ¬ g = O := by omega
  have hgO2 : ¬ O = g := by omega
  have hgw1 : ¬ g = w.heap.size := by omega
  have hgw2 : ¬ w.heap.size = g := by omega
  obtain ⟨z, hz⟩ : ∃ z, V.blocks[m]? = some z := ⟨V.blocks[m], List.getElem?_eq_getElem hm⟩
  have HZ := Lib.hid hz
  have hi0 : (0 : Int) ≤ (m : Int) := by omega
  have hi1 : (m : Int) < (V.blocks.length : Int) := by omega
  clear hd h hk hz hb0
  go_enter Try.func60, Try.ntmps60
  go_wp2
  go_region_with (go_at_call 74; refine (Keep_any _ V.items d _ (HST.out.drew.items hil)).mono ?_; rw [HK.out]; rintro e w5 ⟨v5, rfl, hown5⟩; obtain ⟨p5, c5, rfl⟩ := hown5.isSlice; have st5 := HST.out.drew.past hown5.below; have p0 := st5.o0; have p1 := st5.o1; have pf := st5.fo; obtain ⟨pb, pbf⟩ := st5.block HZ.out; have b0 : w5.cell? ⟨w.heap.size, 0, none⟩ = some (.int .i64 (m : Int)) := (hown5.below.cell (p := ⟨w.heap.size, 0, none⟩) (by simp)).trans (by simp); have b1 : w5.cell? ⟨w.heap.size, 1, none⟩ = some (.string d) := (hown5.below.cell (p := ⟨w.heap.size, 1, none⟩) (by simp)).trans (by simp); have HOWN5 := Lib.hid hown5; clear hown5 st5)
  all_goals
    go_wp2
    go_region
  all_goals
    go_wp2
    go_ret
    refine ⟨rfl, _, (HST.out.drew.step HOWN5.out hm id).drew, ?_⟩
    have hbb : Below B w w5 := ((Below.refl _ _).alloc HB _).drew.trans (HOWN5.out.below.mono (by simp; omega))
    exact ((hbb.setCell (p := ⟨O, 0, none⟩) (by show B ≤ O; omega) _).setCell (p := ⟨g, m, none⟩) HBG _).drew
end Go.Proofs.Ythjaanhkmfiajac
