/- Package log: readRecord: what it returns. Conditions: at most 32 blocks, the text has at most 2^47 bytes. -/
import Derived.Test.YthjaanhkmfiajacLogDecode
namespace Go.Proofs.Ythjaanhkmfiajac
open Go.RowKit PM

/-- what readRecord returns -/
def ReadRet (o : Option (List Wr × Nat)) (w : World) (e : Ending) (w' : World) : Prop :=
  (o = none ∧ e = .returned (.tuple #[.slice none 0 0, .int .i64 0, .bool false]) ∧ Below w.heap.size w w') ∨
  (∃ v' W u, o = some (W, u) ∧ e = .returned (.tuple #[v', .int .i64 ((u : Nat) : Int), .bool true]) ∧ OwnW w.heap.size 61 v' W w w' ∧ W.length ≤ 12)
theorem extract_head' (s : ByteArray) (k : Nat) : (s.extract 0 k).data.toList = s.data.toList.take k := extract_to s k

set_option maxRecDepth 100000 in
set_option maxHeartbeats 1000000 in
theorem readRecord_any (s : ByteArray) (n : Nat) (hn : n ≤ 32) (hs : s.size ≤ 140737488355328) (w : World) :
    Calls Try.prog 64 #[.string s, .int .i64 (n : Int)] w (ReadRet (LM.recAt n s.data.toList) w) := by
  have hl := len_eq s
  by_cases h3 : s.size < 3
  · have hr : LM.recAt n s.data.toList = none := LM.recAt_short (by omega)
    rw [hr]
    clear hr hl
    go_enter Try.func64, Try.ntmps64
    go_wp2
    go_ret3
    exact .inl ⟨rfl, rfl, Below.refl _ _⟩
  · obtain ⟨c, h, l, rest, hL⟩ : ∃ c h l rest, s.data.toList = c :: h :: l :: rest := by
      match hL : s.data.toList with
      | [] => rw [hL] at hl; simp at hl; omega
      | [_] => rw [hL] at hl; simp at hl; omega
      | [_, _] => rw [hL] at hl; simp at hl; omega
      | c :: h :: l :: rest => exact ⟨c, h, l, rest, rfl⟩
    obtain ⟨hlt1, hg1⟩ := get_of hL 1 h rfl
    obtain ⟨hlt2, hg2⟩ := get_of hL 2 l rfl
    have hh8 := h.toNat_lt
    have hl8 := l.toNat_lt
    have hrec := LM.recAt_three hn c h l rest
    obtain ⟨o, ho⟩ : ∃ o, o = LM.recAt n s.data.toList := ⟨_, rfl⟩
    rw [← ho]
    rw [← hL, ← ho] at hrec
    unfold LM.codeAt at hrec
    rw [hl] at hrec
    clear ho
    obtain ⟨z, hz⟩ : ∃ z, z = 256 * h.toNat + l.toNat := ⟨_, rfl⟩
    rw [← hz] at hrec
    obtain ⟨m, hm⟩ : ∃ m, m = z + 7 := ⟨_, rfl⟩
    obtain ⟨q, hq⟩ : ∃ q, q = 3 + z := ⟨_, rfl⟩
    have hmz : (3 + (h.toNat : Int) * 256 + (l.toNat : Int) + 4) = (m : Int) := by omega
    have hmq : (m : Int) - 4 = (q : Int) := by omega
    have hq3 : (3 : Int) ≤ (q : Int) := by omega
    have hz70 : z ≤ 65535 := by omega
    rw [← hm] at hrec
    have HMZ := Lib.hid hmz
    clear hmz
    by_cases hsz : s.size < m
    · rw [if_pos hsz] at hrec
      have HR := Lib.hid hrec
      clear hrec hL hl hq hm hz hmq
      go_enter Try.func64, Try.ntmps64
      go_wp2
      go_quiet (fail)
      rw [HMZ.out]
      go_wp2
      go_ret3
      exact .inl ⟨HR.out, rfl, below_dr (Below.refl _ _) _⟩
    · rw [if_neg hsz] at hrec
      have hex : (s.extract 3 q).data.toList = (s.data.toList.drop 3).take z := by rw [hq]; exact extract_mid s 3 z
      have hexs : (s.extract 3 q).size ≤ 70000 := by simp; omega
      have hto : (s.extract 0 m).data.toList = s.data.toList.take m := extract_to s m
      have hqs : (q : Int) ≤ (s.size : Int) := by omega
      have hms : (m : Int) ≤ (s.size : Int) := by omega
      obtain ⟨b, hb⟩ : ∃ b, b = LM.parseB (s.extract 3 q).data.toList := ⟨_, rfl⟩
      rw [← hex, ← hb, ← hto] at hrec
      have hdb : ∀ w : World, Calls Try.prog 76 #[.string (s.extract 3 q)] w (BodyRet b w) := fun w => by
        rw [hb]
        exact decodeBody_any _ hexs w
      clear hb hto hexs hex hL hl hq hm hz
      cases b with
      | none =>
        have HDB : Hid (∀ w : World, Calls Try.prog 76 #[.string (s.extract 3 q)] w fun e w' => e = .returned (.tuple #[.slice none 0 0, .bool false]) ∧ Below w.heap.size w w') := fun w => by
          refine (hdb w).mono ?_
          rintro e w' (⟨_, he, hb⟩ | ⟨_, _, h, _⟩)
          · exact ⟨he, hb⟩
          · cases h
        have HREC := Lib.hid hrec
        clear hrec hdb
        go_enter Try.func64, Try.ntmps64
        go_wp2
        go_quiet (fail)
        rw [HMZ.out]
        have hbq := below_dr (Below.refl w.heap.size w) nq
        obtain ⟨wq, hwq⟩ : ∃ wq, wq = w.drewN nq := ⟨_, rfl⟩
        rw [← hwq] at hbq ⊢
        clear hwq
        go_wp2_with (go_at_call 76; refine (HDB.out _).mono ?_; rintro e w1 ⟨rfl, hb1⟩)
        go_ret3
        exact .inl ⟨HREC.out, rfl, hbq.trans (hb1.mono hbq.size)⟩
      | some W =>
        have HDB : Hid (∀ w : World, Calls Try.prog 76 #[.string (s.extract 3 q)] w fun e w' => ∃ v', e = .returned (.tuple #[v', .bool true]) ∧ OwnW w.heap.size 61 v' W w w' ∧ W.length ≤ 255) := fun w => by
          refine (hdb w).mono ?_
          rintro e w' (⟨h, _⟩ | ⟨v', V, h, he, ho, h255⟩)
          · cases h
          · cases h
            exact ⟨v', he, ho, h255⟩
        simp only at hrec
        by_cases hf : wFault W (n : Int) = 0
        · have hrr : recRet W n = .tuple #[.string ⟨(LM.recL W).toArray⟩, .int .i64 0] := if_pos hf
          obtain ⟨r, hr⟩ : ∃ r : ByteArray, r = ⟨(LM.recL W).toArray⟩ := ⟨_, rfl⟩
          have hrl : r.data.toList = LM.recL W := by rw [hr]
          rw [← hr] at hrr
          have h12 := (wFault_ok hf).len
          by_cases heq : LM.recL W = (s.extract 0 m).data.toList
          · rw [if_pos ⟨hf, heq⟩] at hrec
            have hcmp : (!(r.toList == (s.extract 0 m).toList)) = false := by
              rw [ByteArray.toList_eq, ByteArray.toList_eq, hrl, heq]
              simp
            have HREC := Lib.hid hrec
            have HRR := Lib.hid hrr
            clear hrec hdb hrr hr hrl heq hf
            go_enter Try.func64, Try.ntmps64
            go_wp2
            go_quiet (fail)
            rw [HMZ.out]
            have hbq := below_dr (Below.refl w.heap.size w) nq
            obtain ⟨wq, hwq⟩ : ∃ wq, wq = w.drewN nq := ⟨_, rfl⟩
            rw [← hwq] at hbq ⊢
            clear hwq
            go_wp2_with (first
              | (go_at_call 76; refine (HDB.out _).mono ?_; rintro e w1 ⟨v1, rfl, ho1, h255⟩; obtain ⟨p1, c1, rfl⟩ := ho1.isSlice; have HO1 := Lib.hid ho1; clear ho1)
              | (go_at_call 39; refine (Record_any _ W n hn _ (HO1.out.writes (by omega))).mono ?_; rw [HRR.out]; rintro e w2 ⟨rfl, hb2⟩))
            go_ret3
            exact .inr ⟨_, W, m, HREC.out, rfl, (HO1.out.past hb2).lower hbq.size hbq, h12⟩
          · rw [if_neg (fun h => heq h.2)] at hrec
            have hcmp : (!(r.toList == (s.extract 0 m).toList)) = true := by
              rw [ByteArray.toList_eq, ByteArray.toList_eq, hrl]
              simpa using heq
            have HREC := Lib.hid hrec
            have HRR := Lib.hid hrr
            clear hrec hdb hrr hr hrl heq hf
            go_enter Try.func64, Try.ntmps64
            go_wp2
            go_quiet (fail)
            rw [HMZ.out]
            have hbq := below_dr (Below.refl w.heap.size w) nq
            obtain ⟨wq, hwq⟩ : ∃ wq, wq = w.drewN nq := ⟨_, rfl⟩
            rw [← hwq] at hbq ⊢
            clear hwq
            go_wp2_with (first
              | (go_at_call 76; refine (HDB.out _).mono ?_; rintro e w1 ⟨v1, rfl, ho1, h255⟩; obtain ⟨p1, c1, rfl⟩ := ho1.isSlice; have HO1 := Lib.hid ho1; clear ho1)
              | (go_at_call 39; refine (Record_any _ W n hn _ (HO1.out.writes (by omega))).mono ?_; rw [HRR.out]; rintro e w2 ⟨rfl, hb2⟩))
            go_ret3
            exact .inl ⟨HREC.out, rfl, ((HO1.out.past hb2).lower hbq.size hbq).below⟩
        · have hrr : recRet W n = .tuple #[.string ⟨#[]⟩, .int .i64 (wFault W (n : Int))] := if_neg hf
          rw [if_neg (fun h => hf h.1)] at hrec
          obtain ⟨f, hff⟩ : ∃ f, f = wFault W (n : Int) := ⟨_, rfl⟩
          rw [← hff] at hf hrr
          have hd : (f != 0) = true := by simpa using hf
          have HREC := Lib.hid hrec
          have HRR := Lib.hid hrr
          clear hrec hdb hrr hff hf
          go_enter Try.func64, Try.ntmps64
          go_wp2
          go_quiet (fail)
          rw [HMZ.out]
          have hbq := below_dr (Below.refl w.heap.size w) nq
          obtain ⟨wq, hwq⟩ : ∃ wq, wq = w.drewN nq := ⟨_, rfl⟩
          rw [← hwq] at hbq ⊢
          clear hwq
          go_wp2_with (first
            | (go_at_call 76; refine (HDB.out _).mono ?_; rintro e w1 ⟨v1, rfl, ho1, h255⟩; obtain ⟨p1, c1, rfl⟩ := ho1.isSlice; have HO1 := Lib.hid ho1; clear ho1)
            | (go_at_call 39; refine (Record_any _ W n hn _ (HO1.out.writes (by omega))).mono ?_; rw [HRR.out]; rintro e w2 ⟨rfl, hb2⟩))
          go_ret3
          exact .inl ⟨HREC.out, rfl, ((HO1.out.past hb2).lower hbq.size hbq).below⟩
end Go.Proofs.Ythjaanhkmfiajac
