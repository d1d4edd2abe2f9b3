/- The statements' own Reads: what all blocks of a valid volume read. No condition but that the volume is valid. -/
import Derived.Test.YtajjhjabehiikabDoorReadMath
import Derived.Test.YtajjhjabehiikabDoorPure
import Derived.Test.YtajjhjabehiikabDoorVolRead
namespace Go.Proofs.YtajjhjabehiikabDoor
open Go.RowKit

theorem Tryd.infoStr : (Tryd.prog.info? 9).map (fun i => (i.zero, i.size, i.bytes)) = some (some (.string ⟨#[]⟩), 1, 16) := by kernel_rfl

theorem VOk.wideZ {V : Vol} (h : VOk V) : WideZ V.blocks := by
  intro z hz
  rcases h.blk z hz with rfl | ⟨x, hx, rfl⟩
  · omega
  · have := may_mem h.may hx; omega
theorem Read_at {V : Vol} (hV : VOk V) {k : Nat} (hk : k < V.blocks.length) (v : Value) (w : World) (h : VolAt w v V) :
    Calls Tryd.prog 23 #[v, .int .i64 (k : Int)] w fun e w' => e = .returned (.tuple #[.string (rd V k), .int .i64 0]) ∧ Below w.heap.size w w' := by
  have hl := hV.len.2
  have := VRead_any v V (k : Int) (by omega) w h hV.wideZ
  rw [readOf_ok hV hk] at this
  exact this

/-- the loop's state -/
def ReadSt (w : World) (a b : Value) (V : Vol) (k : Nat) (vo : Value) (wr : World) : Prop :=
  OwnS (w.alloc (.cells #[a, b] 26)).heap.size 9 vo ((List.range k).map (rd V)) (w.alloc (.cells #[a, b] 26)) wr

set_option maxRecDepth 100000 in
set_option maxHeartbeats 2000000 in
theorem Reads_any (v : Value) (V : Vol) (w : World) (h : VolAt w v V) (hV : VOk V) :
    Calls Tryd.prog 18 #[v] w fun e w' => ∃ v', e = .returned v' ∧ OwnS w.heap.size 9 v' (rds V) w w' := by
  obtain ⟨i0, hi, hz0, hz1, hz2⟩ := info_parts Tryd.infoStr
  have h' := h
  obtain ⟨vi, vb, rfl, hI, hZ⟩ := h'
  obtain ⟨p, cap, rfl, _⟩ := hI
  obtain ⟨pz, capz, rfl, _⟩ := hZ
  have HV := Lib.hid h
  have HOK := Lib.hid hV
  have hl := hV.len.2
  clear h hV
  have hst : ReadSt w (.slice p V.items.length cap) (.slice pz V.blocks.length capz) V 0 (.slice none 0 0) (w.alloc (.cells #[.slice p V.items.length cap, .slice pz V.blocks.length capz] 26)) := OwnS.nil (Below.refl _ _) (Nat.le_refl _)
  go_enter Tryd.func18, Tryd.ntmps18
  go_wp2
  go_loopw [3, 10] (fun out i wr => ∃ (k : Nat) (vo : Value), k ≤ V.blocks.length ∧ i = .int .i64 (k : Int) ∧ vo = out ∧ ReadSt w (.slice p V.items.length cap) (.slice pz V.blocks.length capz) V k vo wr) (fun _ i _ => V.blocks.length - (intOf i).toNat)
  case atStart => exact ⟨0, _, Nat.zero_le _, rfl, rfl, hst⟩
  case round =>
    clear hst
    obtain ⟨k, vo, hk, rfl, rfl, hst⟩ := hrel
    have hP : Past2 w (.slice p V.items.length cap) (.slice pz V.blocks.length capz) 26 wr := hst.below
    obtain ⟨q0, q1, f0, f1, hz⟩ := hP.cells
    by_cases hlt : k < V.blocks.length
    · obtain ⟨d, hd⟩ : ∃ d, rd V k = d := ⟨_, rfl⟩
      have HD := Lib.hid hd
      have HST := Lib.hid hst
      clear hd hst
      go_wp2_with (first
        | (go_at_call 23; refine (Read_at HOK.out hlt _ _ (HV.out.keep hP.box)).mono ?_; rw [HD.out]; rintro e w2 ⟨rfl, hb2⟩; have HO2 := Lib.hid (OwnS.past HST.out hb2))
        | (at_builtin; refine wpList_own_str rfl (.tmp 19) (.tmp 21) 45 rfl _ 9 i0 _ Tryd.underlying45 hi hz0 rfl hz1 hz2 vo _ rfl _ w2 d HO2.out _ rfl rfl (by simp; omega) ?_; intro v3 w3 hown3 _))
      go_roundw
      case rel => exact ⟨k + 1, _, by omega, by go_num, rfl, by unfold ReadSt; rw [List.range_succ, List.map_append, List.map_singleton, HD.out]; exact hown3⟩
      case measure => simp [intOf]; omega
    · have hkl : k = V.blocks.length := by omega
      have hfin : OwnS w.heap.size 9 vo (rds V) w wr := by
        unfold ReadSt at hst
        rw [hkl] at hst
        exact OwnS.lower hst (by simp) (below_alloc (Below.refl _ _) _)
      have HF := Lib.hid hfin
      clear hfin hst hkl
      go_wp2
      go_ret
      exact ⟨_, rfl, HF.out⟩
end Go.Proofs.YtajjhjabehiikabDoor
