/- Package log: decodeWrite and decodeBody: what they return. Condition: the text has at most 65535 bytes. -/
import Derived.Test.YthjaanhkmfiajacLogRecord
import Derived.Test.YthjaanhkmfiajacPure
import Derived.BigQuiet
namespace Go.Proofs.Ythjaanhkmfiajac
open Go.RowKit PM

/-- the write at the front of a body, and its size -/
def wrOf : List UInt8 → Option (Wr × Nat)
  | b :: n :: rest => if rest.length < n.toNat then none else match LM.unp (rest.take n.toNat) with
    | none => none
    | some d => some (⟨(b.toNat : Int), ⟨d.toArray⟩⟩, 2 + n.toNat)
  | _ => none
theorem parseP_step (k : Nat) (s : List UInt8) : LM.parseP (k + 1) s = match wrOf s with
    | none => none
    | some (x, u) => (LM.parseP k (s.drop u)).map fun W => x :: W := by
  match s with
  | [] => rfl
  | [_] => rfl
  | b :: n :: rest =>
    rw [LM.parseP, wrOf]
    by_cases h : rest.length < n.toNat
    · rw [if_pos h, if_pos h]
    · rw [if_neg h, if_neg h]
      cases LM.unp (rest.take n.toNat) with
      | none => rfl
      | some d =>
        simp only
        rw [show 2 + n.toNat = n.toNat + 2 by omega]
        rfl
/-- the result of decodeWrite -/
def wrRet (s : List UInt8) : Value := match wrOf s with
  | none => .tuple #[.agg #[.int .i64 0, .string ⟨#[]⟩], .int .i64 0, .bool false]
  | some (x, u) => .tuple #[.agg #[.int .i64 x.block, .string x.data], .int .i64 (u : Int), .bool true]
theorem unpacked_some {s : ByteArray} {d : List UInt8} (h : LM.unp s.data.toList = some d) : unpacked s = .tuple #[.string ⟨d.toArray⟩, .int .i64 0] := by
  unfold LM.unp at h
  cases hd : dec [] s.data.toList with
  | err n => rw [hd] at h; cases h
  | ok l =>
    rw [hd] at h
    simp only at h
    by_cases he : enc l = s.data.toList
    · rw [if_pos he] at h
      cases h
      exact unpacked_ok hd he
    · rw [if_neg he] at h; cases h
theorem unpacked_none {s : ByteArray} (h : LM.unp s.data.toList = none) : ∃ m : Int, m ≠ 0 ∧ unpacked s = .tuple #[.string ⟨#[]⟩, .int .i64 m] := by
  unfold LM.unp at h
  cases hd : dec [] s.data.toList with
  | err n =>
    refine ⟨n, ?_, unpacked_err hd⟩
    rcases dec_err _ _ _ _ rfl hd with rfl | rfl <;> decide
  | ok l =>
    rw [hd] at h
    simp only at h
    by_cases he : enc l = s.data.toList
    · rw [if_pos he] at h; cases h
    · exact ⟨4, by decide, unpacked_form hd he⟩

theorem results_cell2 {fn : Func} {p u v : Tmp} {ty : TypeId} (h : fn.results = #[.cell p ty, .tmp u, .tmp v]) (tmps : Array Value) (P : Program) (w : World) :
    (results fn tmps).run P w =
      ((asAddr (tmps.getD p undef)).run P w).andThen fun a w₁ => ((loadVar ty a).run P w₁).andThen fun x w₂ => .ok (.tuple #[x, tmps.getD u undef, tmps.getD v undef]) w₂ := by
  simp only [results, h]
  simp [Sem.run_bind, Result.andThen]
theorem extract_mid (s : ByteArray) (i n : Nat) : (s.extract i (i + n)).data.toList = (s.data.toList.drop i).take n := by
  have : (s.extract i (i + n)).data = s.data.extract i (i + n) := by simp
  rw [this, Array.toList_extract]
  simp [List.extract]

theorem box_past {a b : Value} {e : TypeId} {w w1 : World} (h : Below (w.alloc (.cells #[a, b] e)).heap.size (w.alloc (.cells #[a, b] e)) w1) :
    w1.cell? ⟨w.heap.size, 0, none⟩ = some a ∧ w1.cell? ⟨w.heap.size, 1, none⟩ = some b ∧ w1.frozen? ⟨w.heap.size, 0, none⟩ = false ∧ w1.frozen? ⟨w.heap.size, 1, none⟩ = false ∧ Below w.heap.size w w1 := by
  refine ⟨(h.cell (p := ⟨w.heap.size, 0, none⟩) (by simp)).trans (by simp), (h.cell (p := ⟨w.heap.size, 1, none⟩) (by simp)).trans (by simp), (h.frozen (p := ⟨w.heap.size, 0, none⟩) (by simp)).trans (by simp), (h.frozen (p := ⟨w.heap.size, 1, none⟩) (by simp)).trans (by simp), below_then (below_alloc (Below.refl _ _) _) h⟩

set_option maxRecDepth 100000 in
set_option maxHeartbeats 1000000 in
theorem decodeWrite_any (s : ByteArray) (hs : s.size ≤ 70000) (w : World) :
    Calls Try.prog 86 #[.string s] w fun e w' => e = .returned (wrRet s.data.toList) ∧ Below w.heap.size w w' := by
  have hl := len_eq s
  have hbe := (below_alloc (Below.refl w.heap.size w) (.cells #[.int .i64 0, .string ⟨#[]⟩] 61))
  by_cases h2 : s.size < 2
  · have hr : wrRet s.data.toList = .tuple #[.agg #[.int .i64 0, .string ⟨#[]⟩], .int .i64 0, .bool false] := by
      unfold wrRet
      match hL : s.data.toList with
      | [] => rfl
      | [_] => rfl
      | _ :: _ :: _ => rw [hL] at hl; simp at hl; omega
    rw [hr]
    clear hr hl
    go_enter Try.func86, Try.ntmps86
    go_wp2
    refine bodyPost_ret (v := .tuple #[.agg #[.int .i64 0, .string ⟨#[]⟩], .int .i64 0, .bool false]) (by rw [results_cell2 rfl]; go_simp) rfl ⟨rfl, ?_⟩
    exact hbe
  · obtain ⟨b, n, rest, hL⟩ : ∃ b n rest, s.data.toList = b :: n :: rest := by
      match hL : s.data.toList with
      | [] => rw [hL] at hl; simp at hl; omega
      | [_] => rw [hL] at hl; simp at hl; omega
      | b :: n :: rest => exact ⟨b, n, rest, rfl⟩
    obtain ⟨hlt0, hg0⟩ := get_of hL 0 b rfl
    obtain ⟨hlt1, hg1⟩ := get_of hL 1 n rfl
    have hrl : rest.length + 2 = s.size := by rw [← hl, hL]; rfl
    have hn8 := n.toNat_lt
    have hb8 := b.toNat_lt
    rw [hL]
    by_cases h3 : rest.length < n.toNat
    · have hr : wrRet (b :: n :: rest) = .tuple #[.agg #[.int .i64 0, .string ⟨#[]⟩], .int .i64 0, .bool false] := by
        unfold wrRet
        rw [wrOf, if_pos h3]
      rw [hr]
      have hlt : (s.size : Int) < 2 + (n.toNat : Int) := by omega
      clear hr hl hL
      go_enter Try.func86, Try.ntmps86
      go_wp2
      refine bodyPost_ret (v := .tuple #[.agg #[.int .i64 0, .string ⟨#[]⟩], .int .i64 0, .bool false]) (by rw [results_cell2 rfl]; go_simp) rfl ⟨rfl, ?_⟩
      exact hbe
    · have hlt : ¬ (s.size : Int) < 2 + (n.toNat : Int) := by omega
      have hle : (2 : Int) + (n.toNat : Int) ≤ (s.size : Int) := by omega
      have hge : (2 : Int) ≤ 2 + (n.toNat : Int) := by omega
      have hex : (s.extract 2 (2 + n.toNat)).data.toList = rest.take n.toNat := by rw [extract_mid, hL]; rfl
      cases hu : LM.unp (rest.take n.toNat) with
      | none =>
        have hr : wrRet (b :: n :: rest) = .tuple #[.agg #[.int .i64 0, .string ⟨#[]⟩], .int .i64 0, .bool false] := by
          unfold wrRet
          rw [wrOf, if_neg h3, hu]
        rw [hr]
        rw [← hex] at hu
        obtain ⟨m, hm, hum⟩ := unpacked_none hu
        have hd : (m == 0) = false := by simpa using hm
        have HU := Lib.hid hum
        clear hr hl hL hu hum hex hm
        go_enter Try.func86, Try.ntmps86
        go_wp2_with (go_at_call 91; refine (Unpack_any (s.extract 2 (2 + n.toNat)) _).mono ?_; rw [HU.out]; rintro e w1 ⟨rfl, hb1⟩; obtain ⟨bx0, bx1, bf0, bf1, hbw⟩ := box_past hb1)
        refine bodyPost_ret (v := .tuple #[.agg #[.int .i64 0, .string ⟨#[]⟩], .int .i64 0, .bool false]) (by rw [results_cell2 rfl]; go_simp) rfl ⟨rfl, ?_⟩
        exact (hbw.setCell (p := ⟨w.heap.size, _, none⟩) (Nat.le_refl _) _).setCell (p := ⟨w.heap.size, _, none⟩) (Nat.le_refl _) _
      | some d =>
        obtain ⟨dd, hdd⟩ : ∃ dd : ByteArray, dd = ⟨d.toArray⟩ := ⟨_, rfl⟩
        have hr : wrRet (b :: n :: rest) = .tuple #[.agg #[.int .i64 (b.toNat : Int), .string dd], .int .i64 (2 + (n.toNat : Int)), .bool true] := by
          unfold wrRet
          rw [wrOf, if_neg h3, hu, hdd]
          simp only
          rw [Int.natCast_add]
          rfl
        rw [hr]
        rw [← hex] at hu
        have hum := unpacked_some hu
        rw [← hdd] at hum
        have HU := Lib.hid hum
        clear hr hl hL hu hum hex hdd
        go_enter Try.func86, Try.ntmps86
        go_wp2_with (go_at_call 91; refine (Unpack_any (s.extract 2 (2 + n.toNat)) _).mono ?_; rw [HU.out]; rintro e w1 ⟨rfl, hb1⟩; obtain ⟨bx0, bx1, bf0, bf1, hbw⟩ := box_past hb1)
        refine bodyPost_ret (v := .tuple #[.agg #[.int .i64 (b.toNat : Int), .string dd], .int .i64 (2 + (n.toNat : Int)), .bool true]) (by rw [results_cell2 rfl]; go_simp) rfl ⟨rfl, ?_⟩
        exact (hbw.setCell (p := ⟨w.heap.size, _, none⟩) (Nat.le_refl _) _).setCell (p := ⟨w.heap.size, _, none⟩) (Nat.le_refl _) _

theorem wrOf_le {s : List UInt8} {x : Wr} {u : Nat} (h : wrOf s = some (x, u)) : u ≤ s.length := by
  match s with
  | [] => cases h
  | [_] => cases h
  | b :: n :: rest =>
    rw [wrOf] at h
    by_cases hl : rest.length < n.toNat
    · rw [if_pos hl] at h; cases h
    · rw [if_neg hl] at h
      cases hu : LM.unp (rest.take n.toNat) with
      | none => rw [hu] at h; cases h
      | some d =>
        rw [hu] at h
        cases h
        simp only [List.length_cons]
        omega
/-- what decodeBody returns -/
def BodyRet (o : Option (List Wr)) (w : World) (e : Ending) (w' : World) : Prop :=
  (o = none ∧ e = .returned (.tuple #[.slice none 0 0, .bool false]) ∧ Below w.heap.size w w') ∨
  (∃ v' W, o = some W ∧ e = .returned (.tuple #[v', .bool true]) ∧ OwnW w.heap.size 61 v' W w w' ∧ W.length ≤ 255)

set_option maxRecDepth 100000 in
set_option maxHeartbeats 1000000 in
theorem decodeBody_any (s : ByteArray) (hs : s.size ≤ 70000) (w : World) :
    Calls Try.prog 76 #[.string s] w (BodyRet (LM.parseB s.data.toList) w) := by
  obtain ⟨i0, hi, hz0, hz1, hz2⟩ := info_parts infoWrite
  have hl := len_eq s
  by_cases h0 : s.size = 0
  · have he : s = ⟨#[]⟩ := by
      have : s.data.toList = [] := List.eq_nil_of_length_eq_zero (by omega)
      cases s with
      | mk d => simp at this; rw [this]
    subst he
    clear hl h0
    go_enter Try.func76, Try.ntmps76
    go_wp2
    go_ret2
    exact .inl ⟨rfl, rfl, Below.refl _ _⟩
  · obtain ⟨c, rest, hL⟩ : ∃ c rest, s.data.toList = c :: rest := by
      match hL : s.data.toList with
      | [] => rw [hL] at hl; simp at hl; omega
      | c :: rest => exact ⟨c, rest, rfl⟩
    obtain ⟨hlt0, hg0⟩ := get_of hL 0 c rfl
    have hc8 := c.toNat_lt
    have hne : s.toList.isEmpty = false := by rw [ByteArray.toList_eq, hL]; rfl
    have hle1 : (1 : Int) ≤ (s.size : Int) := by omega
    have hex : (s.extract 1 s.size).data.toList = rest := by rw [ext_from, hL]; rfl
    have hexs : (s.extract 1 s.size).size ≤ 70000 := by simp; omega
    obtain ⟨r0, hr0⟩ : ∃ r0, r0 = s.extract 1 s.size := ⟨_, rfl⟩
    rw [← hr0] at hex hexs
    obtain ⟨o, ho⟩ : ∃ o, o = LM.parseB s.data.toList := ⟨_, rfl⟩
    rw [← ho]
    have hstart : o = (LM.parseP (c.toNat - 0) r0.data.toList).map fun V => [] ++ V := by
      rw [ho, hL, hex]
      show LM.parseP c.toNat rest = _
      rw [Nat.sub_zero]
      simp
    have HST := Lib.hid hstart
    have HR0 := Lib.hid hr0
    clear hstart hex hL hl ho hr0
    go_enter Try.func76, Try.ntmps76
    go_wp2
    go_quiet (fail)
    go_wp2
    all_goals
      rw [← HR0.out]
      go_loopw [5, 6, 18] (fun a b i wr => ∃ (k : Nat) (r : ByteArray) (W : List Wr), k ≤ c.toNat ∧ i = .int .i64 k ∧ a = .string r ∧ r.size ≤ 70000 ∧ W.length = k ∧ OwnW w.heap.size 61 b W w wr ∧ Hid (o = (LM.parseP (c.toNat - k) r.data.toList).map fun V => W ++ V)) (fun _ _ i _ => c.toNat - (intOf i).toNat)
      case atStart => exact ⟨0, r0, [], Nat.zero_le _, rfl, rfl, hexs, rfl, OwnW.nil (by first | exact Below.refl _ _ | exact below_dr (Below.refl _ _) _ | exact (Below.refl _ _).drew) (by first | exact Nat.le_refl _ | simp), HST⟩
      case round =>
        obtain ⟨k, r, W, hk, rfl, rfl, hrs, hwk, hown, HO⟩ := hrel
        have HOW := Lib.hid hown
        have HWK := Lib.hid hwk
        have hw255 : W.length ≤ 255 := by omega
        obtain ⟨po, co, rfl⟩ := hown.isSlice
        clear hown hwk
        by_cases hlt : k < c.toNat
        · have hpo := HO.out
          rw [show c.toNat - k = (c.toNat - (k + 1)) + 1 by omega, parseP_step] at hpo
          cases hw : wrOf r.data.toList with
          | none =>
            rw [hw] at hpo
            have hret : wrRet r.data.toList = .tuple #[.agg #[.int .i64 0, .string ⟨#[]⟩], .int .i64 0, .bool false] := by unfold wrRet; rw [hw]
            have HRT := Lib.hid hret
            have HPO := Lib.hid hpo
            clear hpo hret hw
            go_wp2_with (go_at_call 86; refine (decodeWrite_any _ hrs _).mono ?_; rw [HRT.out]; rintro e w1 ⟨rfl, hb1⟩)
            go_ret2
            exact .inl ⟨HPO.out, rfl, ((HOW.out.past hb1).alloc _).below⟩
          | some p =>
            obtain ⟨x, u⟩ := p
            have hu := wrOf_le hw
            rw [len_eq] at hu
            rw [hw] at hpo
            have hret : wrRet r.data.toList = .tuple #[.agg #[.int .i64 x.block, .string x.data], .int .i64 (u : Int), .bool true] := by unfold wrRet; rw [hw]
            have hpo' : o = (LM.parseP (c.toNat - (k + 1)) (r.extract u r.size).data.toList).map fun V => (W ++ [x]) ++ V := by
              rw [hpo, ext_from]
              simp only [Option.map_map]
              congr 1
              funext V
              simp
            have hrs' : (r.extract u r.size).size ≤ 70000 := by simp; omega
            obtain ⟨r', hr'⟩ : ∃ r', r' = r.extract u r.size := ⟨_, rfl⟩
            rw [← hr'] at hpo' hrs'
            have hui : (u : Int) ≤ (r.size : Int) := by omega
            have HRT := Lib.hid hret
            have HPO := Lib.hid hpo'
            have HRR := Lib.hid hr'
            clear hpo hpo' hret hw hr'
            go_wp2_with (first
              | (go_at_call 86; refine (decodeWrite_any _ hrs _).mono ?_; rw [HRT.out]; rintro e w1 ⟨rfl, hb1⟩; have HO1 := Lib.hid ((HOW.out.past hb1).alloc (.cells #[.int .i64 x.block, .string x.data] 61)))
              | (at_builtin; refine wpList_own_write rfl (.tmp 28) (.tmp 30) 37 rfl w.heap.size 61 i0 _ Try.underlying37 hi hz0 rfl hz1 hz2 _ W rfl w _ x HO1.out _ rfl (by simp) (by omega) ?_; intro v5 w5 ho5))
            go_roundw
            case rel => exact ⟨k + 1, r', W ++ [x], by omega, by go_num, by rw [HRR.out], hrs', by simp; exact HWK.out, ho5, HPO⟩
            case measure => simp [intOf]; omega
        · have hke : c.toNat - k = 0 := by omega
          have hpo := HO.out
          rw [hke] at hpo
          have hpo' : o = some W := by rw [hpo]; simp [LM.parseP]
          have HPO := Lib.hid hpo'
          clear hpo hpo' hke
          go_wp2
          go_ret2
          exact .inr ⟨_, W, HPO.out, rfl, HOW.out, hw255⟩
end Go.Proofs.Ythjaanhkmfiajac
