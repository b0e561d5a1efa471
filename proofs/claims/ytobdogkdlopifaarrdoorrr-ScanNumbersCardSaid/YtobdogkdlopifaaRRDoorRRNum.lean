/-
  What is proved: what scan.isDigit, scan.readDigits, scan.Number return, and scan.ReadNumber at a text that begins with the digits of a number in range. Conditions: those of the theorems.
-/
import Derived.Test.YtobdogkdlopifaaRRDoorRRShelf
import Derived.Test.YtobdogkdlopifaaRRDoorRRMath
import Derived.WalkKit
import Derived.BigCall
import Derived.WalkSpells
import Derived.WalkLawsBesides
import Derived.Deep.LoopGhost
import Derived.Lib.SmallJoins
import Derived.Lib.AppendIntMem
import Derived.Outline
namespace Go.Proofs.YtobdogkdlopifaaRRDoorRR
open Go.RowKit

theorem isDigit_yes (c : Int) (w : World) (h0 : 48 ≤ c) (h1 : c ≤ 57) :
    Calls Tryd.prog 11 #[.int .u8 c] w fun e w' => e = .returned (.bool true) ∧ w = w' := by
  go_enter Tryd.func11, Tryd.ntmps11
  go_wp2
  go_ret
  exact ⟨rfl, rfl⟩

theorem isDigit_lo (c : Int) (w : World) (h0 : c < 48) :
    Calls Tryd.prog 11 #[.int .u8 c] w fun e w' => e = .returned (.bool false) ∧ w = w' := by
  go_enter Tryd.func11, Tryd.ntmps11
  go_wp2
  go_ret
  exact ⟨rfl, rfl⟩

theorem isDigit_hi (c : Int) (w : World) (h0 : 57 < c) :
    Calls Tryd.prog 11 #[.int .u8 c] w fun e w' => e = .returned (.bool false) ∧ w = w' := by
  have h1 : 48 ≤ c := by omega
  have h2 : decide (c ≤ 57) = false := by simp; omega
  go_enter Tryd.func11, Tryd.ntmps11
  go_wp2
  go_ret
  exact ⟨rfl, rfl⟩

theorem isDigit_false (c : UInt8) (w : World) (h : isDig c = false) :
    Calls Tryd.prog 11 #[.int .u8 (c.toNat : Int)] w fun e w' => e = .returned (.bool false) ∧ w = w' := by
  rw [isDig_false_iff] at h
  rcases h with h | h
  · exact isDigit_lo _ w (by omega)
  · exact isDigit_hi _ w (by omega)

theorem isDigit_true (c : UInt8) (w : World) (h : isDig c = true) :
    Calls Tryd.prog 11 #[.int .u8 (c.toNat : Int)] w fun e w' => e = .returned (.bool true) ∧ w = w' := by
  rw [isDig_iff] at h
  exact isDigit_yes _ w (by omega) (by omega)

theorem drop_at (s : ByteArray) (k : Nat) (h : k < s.size) : s.data.toList.drop k = s[k] :: s.data.toList.drop (k + 1) := by
  rw [List.drop_eq_getElem_cons (by simpa using h)]; rfl
theorem drop_end (s : ByteArray) (k : Nat) (h : s.size ≤ k) : s.data.toList.drop k = [] := List.drop_eq_nil_of_le (by simpa using h)

set_option maxHeartbeats 1000000 in
theorem readDigits_any (s : ByteArray) (w : World) (hs : s.size ≤ 1000000) :
    Calls Tryd.prog 12 #[.string s] w fun e w' => e = .returned (.tuple #[.int .i64 (rdFrom 0 0 s.data.toList).1, .int .i64 (rdFrom 0 0 s.data.toList).2]) ∧ w = w' := by
  obtain ⟨R, hR⟩ : ∃ R : Int × Nat, R = rdFrom 0 0 s.data.toList := ⟨_, rfl⟩
  rw [← hR]
  have HR : Aside (R = rdFrom 0 0 s.data.toList) := hR
  clear hR
  go_enter Tryd.func12, Tryd.ntmps12
  go_wp2
  go_step3
  go_wp2
  go_step3
  go_wp2
  go_loopg [2, 3] s.size (fun g s2 s3 wr => ∃ (n : Int) (k : Nat), k + g = s.size ∧ 0 ≤ n ∧ n ≤ 90071992547409919 ∧ s2 = .int .i64 n ∧ s3 = .int .i64 k ∧ Aside (rdFrom n k (s.data.toList.drop k) = R) ∧ w = wr)
  case atStart => exact ⟨0, 0, by omega, by omega, by omega, rfl, rfl, HR.out.symm, rfl⟩
  case round =>
    obtain ⟨n, k, hkg, hn0, hn1, rfl, rfl, HI, rfl⟩ := hrel
    cases gk with
    | zero =>
      have hkz : ¬ ((k : Int) < (s.size : Int)) := by omega
      have HE : Aside (R = (n, k)) := by
        have := HI.out
        rw [drop_end s k (by omega)] at this
        exact this.symm
      clear HI HR
      go_wp2
      go_ret2
      rw [HE.out]
      exact ⟨rfl, rfl⟩
    | succ g =>
      have hlt : k < s.size := by omega
      have HD : Aside (s.data.toList.drop k = s[k] :: s.data.toList.drop (k + 1)) := drop_at s k hlt
      have hb : (s[k].toNat : Int) ≤ 255 := by have := s[k].toNat_lt; omega
      by_cases hd : isDig s[k] = true
      · have hc := (isDig_iff s[k]).1 hd
        have hc0 : 48 ≤ (s[k].toNat : Int) := by omega
        have hc1 : (s[k].toNat : Int) ≤ 57 := by omega
        have HDG : Aside (isDig s[k] = true) := hd
        have CD := Lib.hid (isDigit_true s[k] w hd)
        clear hd hc
        by_cases hm : n ≤ 9007199254740991
        · go_wp2_with (go_at_call 11; refine CD.out.mono ?_; rintro e w' ⟨rfl, rfl⟩)
          go_roundg g
          case measure => omega
          case rel =>
            have hb := rdStep_bd hn0 hn1 HDG.out
            refine ⟨rdStep n s[k], k + 1, by omega, hb.1, hb.2, by rw [rdStep_lo hm], by go_num, ?_, rfl⟩
            show _ = _
            rw [← HI.out, HD.out, rdFrom_dig HDG.out]
        · go_wp2_with (go_at_call 11; refine CD.out.mono ?_; rintro e w' ⟨rfl, rfl⟩)
          go_roundg g
          case measure => omega
          case rel =>
            refine ⟨n, k + 1, by omega, hn0, hn1, rfl, by go_num, ?_, rfl⟩
            show _ = _
            rw [← HI.out, HD.out, rdFrom_dig HDG.out, rdStep_hi (by omega)]
      · have CD := Lib.hid (isDigit_false s[k] w (by simpa using hd))
        have HE : Aside (R = (n, k)) := by
          show _ = _
          rw [← HI.out, HD.out, rdFrom_non (by simpa using hd)]
        clear hd HI HR HD
        go_wp2_with (go_at_call 11; refine CD.out.mono ?_; rintro e w' ⟨rfl, rfl⟩)
        rw [Exit.noGoto_ret]
        go_ret2
        rw [HE.out]
        exact ⟨rfl, rfl⟩

/-- The text of a number. -/
def numStr (n : Int) : ByteArray := ⟨(Lib.itoa n).toArray⟩

set_option maxHeartbeats 400000 in
theorem number_in (n : Int) (w : World) (h0 : -9007199254740991 ≤ n) (h1 : n ≤ 9007199254740991) (htab : Lib.TabIs Tryd.prog w "internal/strconv.uint64pow10" .u64 Lib.pow10Tab) :
    Calls Tryd.prog 5 #[.int .i64 n] w fun e w' => e = .returned (.tuple #[.string (numStr n), .int .i64 0]) ∧ Below w.heap.size w w' := by
  have H := Lib.hid (Tryd.strconv_FormatInt_10 n (by omega) (by omega) w htab)
  clear htab
  have g0 : decide (n < -9007199254740991) = false := by simp; omega
  have g1 : decide (9007199254740991 < n) = false := by simp; omega
  go_enter Tryd.func5, Tryd.ntmps5
  go_wp2_with (go_at_call 8; refine H.out.mono ?_; rintro e w' ⟨rfl, k, os, rfl⟩)
  go_ret2
  exact ⟨rfl, Lib.below_grow _ _ (Nat.le_refl _) _ _⟩

set_option maxHeartbeats 400000 in
theorem number_lo (n : Int) (w : World) (h : n < -9007199254740991) :
    Calls Tryd.prog 5 #[.int .i64 n] w fun e w' => e = .returned (.tuple #[.string ⟨#[]⟩, .int .i64 2]) ∧ w = w' := by
  go_enter Tryd.func5, Tryd.ntmps5
  go_wp2
  go_ret2
  exact ⟨rfl, rfl⟩

set_option maxHeartbeats 400000 in
theorem number_hi (n : Int) (w : World) (h : 9007199254740991 < n) :
    Calls Tryd.prog 5 #[.int .i64 n] w fun e w' => e = .returned (.tuple #[.string ⟨#[]⟩, .int .i64 2]) ∧ w = w' := by
  have g0 : decide (n < -9007199254740991) = false := by simp; omega
  have g1 : decide (9007199254740991 < n) = true := by simp; omega
  go_enter Tryd.func5, Tryd.ntmps5
  go_wp2
  go_ret2
  exact ⟨rfl, rfl⟩

theorem nonempty_of (d : ByteArray) (h : 0 < d.size) : d.toList.isEmpty = false := by
  rw [Lib.toList_data, List.isEmpty_eq_false_iff]
  intro e
  have : d.size = 0 := by rw [Lib.size_eq, e]; rfl
  omega

set_option maxHeartbeats 1000000 in
theorem readNumber_pos (s : ByteArray) (w : World) (hp : Lib.hasPrefix s.data.toList [45] = false) (d : ByteArray) (hd : Lib.trimPrefix s.data.toList [45] = d.data.toList)
    (h0 : 0 < d.size) (hdig : isDig d[0] = true) (n : Int) (k : Nat) (hr : rdFrom 0 0 d.data.toList = (n, k)) (hz : d[0] = 48 → k ≤ 1) (hn0 : 0 ≤ n) (hn : n ≤ 9007199254740991) (hds : d.size ≤ 1000000) (hk : k ≤ 1000000) :
    Calls Tryd.prog 6 #[.string s] w fun e w' => e = .returned (.tuple #[.int .i64 n, .int .i64 k, .int .i64 0]) ∧ w = w' := by
  have C1 := Lib.hid (Tryd.strings_HasPrefix s ⟨#[45]⟩ w)
  have C2 := Lib.hid (Tryd.strings_TrimPrefix s ⟨#[45]⟩ w)
  have C3 := Lib.hid (isDigit_true d[0] w hdig)
  have C4 := Lib.hid (readDigits_any d w hds)
  have HP := Lib.hid hp
  have HD : Hid ((⟨(Lib.trimPrefix s.data.toList [45]).toArray⟩ : ByteArray) = d) := Lib.hid (by rw [hd])
  have HR := Lib.hid hr
  have HZ := Lib.hid hz
  have hE := nonempty_of d h0
  clear hp hd hr hz hdig
  go_enter Tryd.func6, Tryd.ntmps6
  go_wp2_with (first | (go_at_call 9; refine C1.out.mono ?_; rintro e w' ⟨rfl, rfl⟩; rw [HP.out]) | (go_at_call 10; refine C2.out.mono ?_; rintro e w' ⟨rfl, rfl⟩; rw [HD.out]) | (go_at_call 11; refine C3.out.mono ?_; rintro e w' ⟨rfl, rfl⟩) | (go_at_call 12; refine C4.out.mono ?_; rintro e w' ⟨rfl, rfl⟩; rw [HR.out]))
  all_goals first
    | (exfalso; have h48 : d[0] = 48 := UInt8.toNat_inj.1 (by show _ = 48; omega)
       have := HZ.out h48
       omega)
    | (go_ret3; exact ⟨rfl, rfl⟩)

set_option maxHeartbeats 1000000 in
theorem readNumber_neg (s : ByteArray) (w : World) (hp : Lib.hasPrefix s.data.toList [45] = true) (d : ByteArray) (hd : Lib.trimPrefix s.data.toList [45] = d.data.toList)
    (h0 : 0 < d.size) (hdig : isDig d[0] = true) (n : Int) (k : Nat) (hr : rdFrom 0 0 d.data.toList = (n, k)) (hz : d[0] ≠ 48) (hn0 : 0 ≤ n) (hn : n ≤ 9007199254740991) (hds : d.size ≤ 1000000) (hk : k ≤ 1000000) :
    Calls Tryd.prog 6 #[.string s] w fun e w' => e = .returned (.tuple #[.int .i64 (-n), .int .i64 ((k : Int) + 1), .int .i64 0]) ∧ w = w' := by
  have C1 := Lib.hid (Tryd.strings_HasPrefix s ⟨#[45]⟩ w)
  have C2 := Lib.hid (Tryd.strings_TrimPrefix s ⟨#[45]⟩ w)
  have C3 := Lib.hid (isDigit_true d[0] w hdig)
  have C4 := Lib.hid (readDigits_any d w hds)
  have HP := Lib.hid hp
  have HD : Hid ((⟨(Lib.trimPrefix s.data.toList [45]).toArray⟩ : ByteArray) = d) := Lib.hid (by rw [hd])
  have HR := Lib.hid hr
  have h48 : ¬ (d[0].toNat : Int) = 48 := fun h => hz (UInt8.toNat_inj.1 (by show _ = 48; omega))
  have hE := nonempty_of d h0
  clear hp hd hr hz hdig
  go_enter Tryd.func6, Tryd.ntmps6
  go_wp2_with (first | (go_at_call 9; refine C1.out.mono ?_; rintro e w' ⟨rfl, rfl⟩; rw [HP.out]) | (go_at_call 10; refine C2.out.mono ?_; rintro e w' ⟨rfl, rfl⟩; rw [HD.out]) | (go_at_call 11; refine C3.out.mono ?_; rintro e w' ⟨rfl, rfl⟩) | (go_at_call 12; refine C4.out.mono ?_; rintro e w' ⟨rfl, rfl⟩; rw [HR.out]))
  all_goals go_ret3
  all_goals exact ⟨rfl, rfl⟩
end Go.Proofs.YtobdogkdlopifaaRRDoorRR
