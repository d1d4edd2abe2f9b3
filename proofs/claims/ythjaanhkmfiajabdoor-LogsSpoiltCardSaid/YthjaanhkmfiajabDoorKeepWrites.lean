/- The statements' own Writes: writes of raw things, of at most twelve blocks, sorted, no block twice. Condition: one to thirty-two blocks. -/
import Derived.Test.YthjaanhkmfiajabDoorKeepNil
import Derived.Test.YthjaanhkmfiajabDoorKeepData
namespace Go.Proofs.YthjaanhkmfiajabDoor
open Go.RowKit

/-- the slice value v holds the raw things L -/
def RawsAt (w : World) (v : Value) (L : List Rw) : Prop :=
  ∃ (p : Option Addr) (cap : Nat), v = .slice p L.length cap ∧ L.length ≤ cap ∧ cap ≤ 140737488355328 ∧
    ∀ (i : Nat) (x : Rw), L[i]? = some x → ∃ b off, p = some ⟨b, off, none⟩ ∧ b < w.heap.size ∧
      w.cell? ⟨b, off + i * 4, none⟩ = some (.int .i64 x.kind) ∧ w.cell? ⟨b, off + i * 4 + 1, none⟩ = some (.int .i64 x.a) ∧ w.cell? ⟨b, off + i * 4 + 2, none⟩ = some (.int .i64 x.b) ∧ w.cell? ⟨b, off + i * 4 + 3, none⟩ = some (.int .i64 x.c)
theorem RawsAt.keep {w w' : World} {v : Value} {L : List Rw} (h : RawsAt w v L) (hb : Below w.heap.size w w') : RawsAt w' v L := by
  obtain ⟨p, cap, hv, hl, hc, hn⟩ := h
  refine ⟨p, cap, hv, hl, hc, fun i x hx => ?_⟩
  obtain ⟨b, off, hp, hlt, h0, h1, h2, h3⟩ := hn i x hx
  exact ⟨b, off, hp, Nat.lt_of_lt_of_le hlt hb.size, (hb.cell (p := ⟨b, _, none⟩) hlt).trans h0, (hb.cell (p := ⟨b, _, none⟩) hlt).trans h1, (hb.cell (p := ⟨b, _, none⟩) hlt).trans h2, (hb.cell (p := ⟨b, _, none⟩) hlt).trans h3⟩

instance : Inhabited Wr := ⟨⟨0, ⟨#[]⟩⟩⟩
def encWr (x : Wr) : List Value := [.int .i64 x.block, .string x.data]
theorem has1 (b : Int) (B : Nat) (w : World) (hB : B < w.heap.size) (hcell : w.cell? ⟨B, 0, none⟩ = some (.int .i64 b)) :
    PredBelow Tryd.prog 39 #[.pointer (some ⟨B, 0, none⟩)] (fun x : Wr => .agg (encWr x).toArray) (fun x => x.block == b) w := fun W x hb => by
  have hc : W.cell? ⟨B, 0, none⟩ = some (.int .i64 b) := (hb.cell (p := ⟨B, 0, none⟩) hB).trans hcell
  have hBW : B < W.heap.size := Nat.lt_of_lt_of_le hB hb.size
  have hne : B ≠ W.heap.size := by omega
  show Calls Tryd.prog 39 #[.agg #[.int .i64 x.block, .string x.data], .pointer (some ⟨B, 0, none⟩)] W _
  go_enter Tryd.func39, Tryd.ntmps39
  go_wp2
  go_ret
  exact ⟨rfl, hb.alloc hb.size _⟩

theorem contains_any (B : Nat) (e : TypeId) (v : Value) (L : List Wr) (W0 w : World) (h : OwnW B e v L W0 w) (hl : L.length ≤ 1000) (b : Int) (X : Nat) (hX : X < w.heap.size) (hc : w.cell? ⟨X, 0, none⟩ = some (.int .i64 b)) :
    Calls Tryd.prog 38 #[v, .func (.func 39) #[] #[.pointer (some ⟨X, 0, none⟩)]] w fun e w' => e = .returned (.bool (L.any fun x => x.block == b)) ∧ Below w.heap.size w w' := by
  have eg : ∀ args w, (callFunc 39 args).run Tryd.prog w = .ok (.enter 39 args) w := enters_of Tryd.func39 (by kernel_rfl) rfl
  cases L with
  | nil =>
    obtain ⟨p, c, rfl⟩ := h.isSlice
    refine (contains_nil p c _ w).mono ?_
    rintro e w' ⟨rfl, rfl⟩
    exact ⟨rfl, Below.refl _ _⟩
  | cons y L =>
    obtain ⟨g, cap, rfl, hg, hgw, _⟩ := h.shape (by simp)
    have hcon := AnyQ.slices_ContainsFunc Tryd.containsW 2 Tryd.isAgg48 Tryd.sizeOf48 encWr (fun _ => rfl) (fun x => x.block == b) 39 #[.pointer (some ⟨X, 0, none⟩)] eg g 0 (y :: L).length cap (y :: L) w
      (has1 b X w hX hc) (Nat.le_refl _) (by omega) hgw (fun j hj i u hu => by
        obtain ⟨c0, c1, _⟩ := h.cell (List.getElem?_eq_getElem hj)
        rw [getElem!_pos _ j hj] at hu
        match i, hu with
        | 0, hu => simp [encWr] at hu; rw [← hu, Nat.zero_add]; exact c0
        | 1, hu => simp [encWr] at hu; rw [← hu, Nat.zero_add]; exact c1
        | i + 2, hu => simp [encWr] at hu)
    rw [List.take_length] at hcon
    exact hcon

/-- what the loop keeps -/
structure WsOk (L : List Wr) (n : Nat) : Prop where
  len : L.length ≤ 12
  all : ∀ x ∈ L, 0 ≤ x.block ∧ x.block < (n : Int) ∧ DataOk x.data ∧ TinyD x.data
  one : (L.map Wr.block).Nodup
theorem WsOk.nil (n : Nat) : WsOk [] n := ⟨by simp, by simp, by simp⟩
theorem WsOk.add {L : List Wr} {n : Nat} (h : WsOk L n) (hl : L.length < 12) {x : Wr} (hx : 0 ≤ x.block ∧ x.block < (n : Int)) (hd : DataOk x.data ∧ TinyD x.data) (hn : (L.any fun y => y.block == x.block) = false) : WsOk (L ++ [x]) n := by
  refine ⟨by simp; omega, ?_, ?_⟩
  · intro y hy
    rcases List.mem_append.1 hy with hy | hy
    · exact h.all y hy
    · simp at hy; subst hy; exact ⟨hx.1, hx.2, hd⟩
  · rw [List.map_append, List.nodup_append]
    refine ⟨h.one, by simp, ?_⟩
    intro a ha b hb hab
    simp at hb
    subst hb; subst hab
    obtain ⟨y, hy, he⟩ := List.mem_map.1 ha
    rw [List.any_eq_false] at hn
    exact absurd (by simpa using he) (hn y hy)
theorem WsOk.sorted {L M : List Wr} {n : Nat} (h : WsOk L n) (hp : M.Perm L) (hs : M.Pairwise (fun x y => x.block ≤ y.block)) : WOk M n ∧ ∀ x ∈ M, DataOk x.data := by
  have hnd : (M.map Wr.block).Nodup := (hp.map _).nodup_iff.2 h.one
  refine ⟨⟨by rw [hp.length_eq]; exact h.len, fun x hx => ?_, ?_⟩, fun x hx => (h.all x (hp.subset hx)).2.2.1⟩
  · obtain ⟨h1, h2, h3, _⟩ := h.all x (hp.subset hx)
    exact ⟨h1, h2, h3.1⟩
  · rw [List.Nodup, List.pairwise_map] at hnd
    exact (hs.and hnd).imp fun ⟨h1, h2⟩ => by omega

theorem WsOk.tiny {L M : List Wr} {n : Nat} (h : WsOk L n) (hp : M.Perm L) : ∀ x ∈ M, TinyD x.data := fun x hx => (h.all x (hp.subset hx)).2.2.2

theorem sort_own (B : Nat) (v : Value) (L : List Wr) (W0 w : World) (h : OwnW B 48 v L W0 w) (h12 : L.length ≤ 12) (hs : Small L) :
    Calls Tryd.prog 41 #[v, .func (.func 42) #[] #[]] w fun e w' => e = .returned (.tuple #[]) ∧ ∃ L', L'.Perm L ∧ L'.Pairwise (fun x y => x.block ≤ y.block) ∧ OwnW B 48 v L' W0 w' := by
  cases L with
  | nil =>
    obtain ⟨p, c, rfl⟩ := h.isSlice
    refine (sort_nil p c _ w).mono ?_
    rintro e w' ⟨rfl, rfl⟩
    exact ⟨rfl, [], List.Perm.refl _, by simp, h⟩
  | cons y L =>
    obtain ⟨g, cap, rfl, hg, hgw, _⟩ := h.shape (by simp)
    exact sort_any B g cap _ (y :: L) W0 w h rfl h12 hs

def WritesRet (n : Nat) (w : World) (e : Ending) (w' : World) : Prop := ∃ v' M, e = .returned v' ∧ OwnW w.heap.size 48 v' M w w' ∧ WOk M n ∧ ∀ x ∈ M, DataOk x.data
/-- the same, and that their packed data is short -/
def WritesFull (n l : Nat) (w : World) (e : Ending) (w' : World) : Prop := ∃ v' M, e = .returned v' ∧ OwnW w.heap.size 48 v' M w w' ∧ WOk M n ∧ (∀ x ∈ M, DataOk x.data) ∧ (∀ x ∈ M, TinyD x.data) ∧ M.length ≤ l

theorem Small.of {L : List Wr} {n : Nat} (h : WsOk L n) (hn : n ≤ 32) : Small L := fun x hx => by have := h.all x hx; omega

set_option maxRecDepth 100000 in
set_option maxHeartbeats 2000000 in
theorem Writes_full (v : Value) (L : List Rw) (n : Nat) (hn : 1 ≤ n ∧ n ≤ 32) (w : World) (h : RawsAt w v L) (hok : ∀ r ∈ L, RwOk r) :
    Calls Tryd.prog 18 #[v, .int .i64 (n : Int)] w (WritesFull n L.length w) := by
  obtain ⟨p, cap, rfl, hlc, hcap, hcells⟩ := h
  obtain ⟨i0, hi, hz0, hz1, hz2⟩ := info_parts infoWrite
  have HC := Lib.hid hcells
  have HK := Lib.hid hok
  clear hcells hok
  go_enter Tryd.func18, Tryd.ntmps18
  go_wp2
  go_loopw [5, 6] (fun out i wr => ∃ (k : Nat) (M : List Wr), k ≤ L.length ∧ M.length ≤ k ∧ i = .int .i64 k ∧ WsOk M n ∧ OwnW w.heap.size 48 out M w wr) (fun _ i _ => L.length - (intOf i).toNat)
  case atStart => exact ⟨0, [], Nat.zero_le _, Nat.le_refl _, rfl, WsOk.nil n, OwnW.nil (Below.refl _ _) (Nat.le_refl _)⟩
  case round =>
    obtain ⟨k, M, hk, hmk, rfl, hws, hown⟩ := hrel
    have HWS := Lib.hid hws
    have hml : M.length ≤ 12 := hws.len
    clear hws
    obtain ⟨po, co, rfl⟩ := hown.isSlice
    by_cases hlt : k < L.length
    · by_cases hm : M.length < 12
      · obtain ⟨x, hx⟩ : ∃ x, L[k]? = some x := ⟨L[k], List.getElem?_eq_getElem hlt⟩
        obtain ⟨b, off, rfl, hbl, c0, c1, c2, c3⟩ := HC.out k x hx
        have hxok := HK.out x (List.mem_of_getElem? hx)
        replace c0 := (hown.below.cell (p := ⟨b, _, none⟩) hbl).trans c0
        replace c1 := (hown.below.cell (p := ⟨b, _, none⟩) hbl).trans c1
        replace c2 := (hown.below.cell (p := ⟨b, _, none⟩) hbl).trans c2
        replace c3 := (hown.below.cell (p := ⟨b, _, none⟩) hbl).trans c3
        obtain ⟨q, hq, hqn⟩ := pick_nat x.c n (by omega)
        have HQ := Lib.hid hq
        have HX := Lib.hid hxok
        have HO := Lib.hid hown
        have hsz := hown.2.2
        clear hx hxok hq hown
        have hboxW : (wr.alloc (.cells #[.int .i64 (q : Int)] 3)).cell? ⟨wr.heap.size, 0, none⟩ = some (.int .i64 (q : Int)) := by simp
        have hcont := contains_any _ _ _ _ _ _ (HO.out.alloc (.cells #[.int .i64 (q : Int)] 3)) (by omega) (q : Int) wr.heap.size (by simp) hboxW
        by_cases hany : (M.any fun y => y.block == (q : Int)) = true
        · rw [hany] at hcont
          go_wp2_with (first
            | (go_at_call 11; refine (picked_any _ _ HX.out.c (by omega) _).mono ?_; rw [HQ.out]; rintro e w1 ⟨rfl, rfl⟩)
            | (go_at_call 38; refine hcont.mono ?_; rintro e w2 ⟨rfl, hb2⟩))
          go_roundw
          case rel => exact ⟨k + 1, M, by omega, by omega, by go_num, HWS.out, (HO.out.alloc _).past hb2⟩
          case measure => simp [intOf]; omega
        · have hany' : (M.any fun y => y.block == (q : Int)) = false := by simpa using hany
          rw [hany'] at hcont
          have HAN := Lib.hid hany'
          clear hany hany'
          go_wp2_with (first
            | (go_at_call 11; refine (picked_any _ _ HX.out.c (by omega) _).mono ?_; rw [HQ.out]; rintro e w1 ⟨rfl, rfl⟩)
            | (go_at_call 38; refine hcont.mono ?_; rintro e w2 ⟨rfl, hb2⟩))
          have hbw : Below wr.heap.size wr w2 := (below_alloc (Below.refl _ _) _).trans (hb2.mono (by simp))
          have box2 : w2.cell? ⟨wr.heap.size, 0, none⟩ = some (.int .i64 (q : Int)) := (hb2.cell (p := ⟨wr.heap.size, 0, none⟩) (by simp)).trans hboxW
          have hbr : b < wr.heap.size := by omega
          have d0 := (hbw.cell (p := ⟨b, _, none⟩) hbr).trans c0
          have d1 := (hbw.cell (p := ⟨b, _, none⟩) hbr).trans c1
          have d2 := (hbw.cell (p := ⟨b, _, none⟩) hbr).trans c2
          have d3 := (hbw.cell (p := ⟨b, _, none⟩) hbr).trans c3
          have hown2 := ((HO.out.alloc (.cells #[.int .i64 (q : Int)] 3)).past hb2).drew
          have hbx : wr.heap.size < w2.drew.heap.size := by
            have := hb2.size
            simp at this
            show wr.heap.size < w2.heap.size
            omega
          have HO2 := Lib.hid hown2
          clear hown2 c0 c1 c2 c3 hb2 hbw
          go_region_law (first
            | (refine step_own_write rfl (.tmp 30) (.tmp 38) 41 rfl w.heap.size 48 i0 _ Tryd.underlying41 hi hz0 rfl hz1 hz2 _ M rfl w _ ⟨(q : Int), d⟩ HO4.out _ rfl (by simp) (by omega) ?_; intro v5 w5 hown5)
            | (go_simp; go_at_call 40; refine (Data_any x HX.out _).mono ?_; rintro e w4 ⟨d, rfl, hd, hb4⟩; have box4 := (hb4.cell (p := ⟨wr.heap.size, 0, none⟩) hbx).trans box2; have HO4 := Lib.hid (HO2.out.past hb4); clear hb4))
          all_goals
            have hws5 := HWS.out.add hm (x := ⟨(q : Int), d⟩) ⟨Int.natCast_nonneg q, hqn⟩ hd HAN.out
            obtain ⟨p5, co5, rfl⟩ := hown5.isSlice
            rw [show (M ++ [(⟨(q : Int), d⟩ : Wr)]).length = M.length + 1 by simp] at hown5
            go_wp2
            go_roundw
            case rel => exact ⟨k + 1, M ++ [⟨(q : Int), d⟩], by omega, by simp; omega, by go_num, hws5, hown5⟩
            case measure => simp [intOf]; omega
      · have hd : decide ((M.length : Int) < 12) = false := by rw [decide_eq_false_iff_not]; omega
        have hsort := sort_own _ _ _ _ _ hown hml (Small.of HWS.out hn.2)
        clear hm hown
        go_wp2_with (go_at_call 41; refine hsort.mono ?_; rintro e w2 ⟨rfl, M2, hp2, hs2, ho2⟩)
        go_ret
        obtain ⟨hok, hda⟩ := HWS.out.sorted hp2 hs2
        rw [← hp2.length_eq] at ho2
        have hml2 := hp2.length_eq
        rw [← hp2.length_eq]
        exact ⟨_, M2, rfl, ho2, hok, hda, HWS.out.tiny hp2, by omega⟩
    · have hke : k = L.length := by omega
      subst hke
      have hsort := sort_own _ _ _ _ _ hown hml (Small.of HWS.out hn.2)
      clear hown
      go_wp2_with (go_at_call 41; refine hsort.mono ?_; rintro e w2 ⟨rfl, M2, hp2, hs2, ho2⟩)
      go_ret
      obtain ⟨hok, hda⟩ := HWS.out.sorted hp2 hs2
      have hml2 := hp2.length_eq
      exact ⟨_, M2, rfl, ho2, hok, hda, HWS.out.tiny hp2, by omega⟩
theorem Writes_any (v : Value) (L : List Rw) (n : Nat) (hn : 1 ≤ n ∧ n ≤ 32) (w : World) (h : RawsAt w v L) (hok : ∀ r ∈ L, RwOk r) :
    Calls Tryd.prog 18 #[v, .int .i64 (n : Int)] w (WritesRet n w) := by
  refine (Writes_full v L n hn w h hok).mono ?_
  rintro e w' ⟨v', M, he, ho, hW, hd, _⟩
  exact ⟨v', M, he, ho, hW, hd⟩
theorem RawsAt.take {w : World} {p : Option Addr} {n c : Nat} {L : List Rw} (h : RawsAt w (.slice p n c) L) {m : Nat} (hm : m ≤ n) : RawsAt w (.slice p m c) (L.take m) := by
  obtain ⟨p', c', he, hl, hc, hn⟩ := h
  cases he
  have hlt : (L.take m).length = m := by rw [List.length_take]; omega
  refine ⟨p, c, by rw [hlt], by omega, hc, fun i x hx => hn i x ?_⟩
  rw [List.getElem?_take] at hx
  split at hx
  · exact hx
  · cases hx
theorem RawsAt.drop {w : World} {b off n c : Nat} {L : List Rw} (h : RawsAt w (.slice (some ⟨b, off, none⟩) n c) L) {m : Nat} (hm : m ≤ n) : RawsAt w (.slice (if c = m then some ⟨b, off, none⟩ else some ⟨b, off + m * 4, none⟩) (n - m) (c - m)) (L.drop m) := by
  obtain ⟨p', c', he, hl, hc, hn⟩ := h
  cases he
  refine ⟨_, _, by rw [List.length_drop], by rw [List.length_drop]; omega, by omega, fun i x hx => ?_⟩
  rw [List.getElem?_drop] at hx
  have hlt' := (List.getElem?_eq_some_iff.1 hx).1
  obtain ⟨b', off', hp, hlt, c0, c1, c2, c3⟩ := hn (m + i) x hx
  cases hp
  rw [if_neg (by omega)]
  refine ⟨b, off + m * 4, rfl, hlt, ?_, ?_, ?_, ?_⟩
  · rw [show off + m * 4 + i * 4 = off + (m + i) * 4 by omega]; exact c0
  · rw [show off + m * 4 + i * 4 + 1 = off + (m + i) * 4 + 1 by omega]; exact c1
  · rw [show off + m * 4 + i * 4 + 2 = off + (m + i) * 4 + 2 by omega]; exact c2
  · rw [show off + m * 4 + i * 4 + 3 = off + (m + i) * 4 + 3 by omega]; exact c3
theorem RawsAt.size {w : World} {v : Value} {L : List Rw} (h : RawsAt w v L) (hne : 0 < L.length) : ∃ b off c, v = .slice (some ⟨b, off, none⟩) L.length c ∧ L.length ≤ c ∧ c ≤ 140737488355328 := by
  obtain ⟨p, c, rfl, hl, hc, hn⟩ := h
  obtain ⟨b, off, rfl, _⟩ := hn 0 L[0] (List.getElem?_eq_getElem hne)
  exact ⟨b, off, c, rfl, hl, hc⟩
theorem RawsAt.isSlice {w : World} {v : Value} {L : List Rw} (h : RawsAt w v L) : ∃ p c, v = .slice p L.length c := by
  obtain ⟨p, c, rfl, _⟩ := h
  exact ⟨p, c, rfl⟩

def lenOf : Value → Nat
  | .slice _ n _ => n
  | _ => 0

end Go.Proofs.YthjaanhkmfiajabDoor
