/-
  What is proved: what the document's own answers (package outlawref04) return: letter, digit, among, colon, host, port, Server: the same functions on lists of bytes (IdMath) that package ident's contracts are told by. Conditions: strings of at most 1,000,000 bytes.
-/
import Derived.Test.YtemomaeecelofaaIdLaw
namespace Go.Proofs.Ytemomaeecelofaa
open Go.RowKit

set_option maxHeartbeats 1000000 in
theorem refLetter (c : UInt8) (w : World) :
    Calls Try.prog 37 #[.int .u8 (c.toNat : Int)] w fun e w' => e = .returned (.bool (lowC c || capC c)) ∧ w = w' := by
  obtain ⟨n, hn⟩ : ∃ n : Nat, n = c.toNat := ⟨_, rfl⟩
  have hc : n < 256 := by rw [hn]; exact c.toNat_lt
  have HV : Hid ((lowC c || capC c) = ((decide (97 ≤ n) && decide (n ≤ 122)) || (decide (65 ≤ n) && decide (n ≤ 90)))) := Lib.hid (by rw [hn]; rfl)
  rw [HV.out, ← hn]
  clear HV hn
  have ways : n < 65 ∨ (65 ≤ n ∧ n ≤ 90) ∨ (90 < n ∧ n < 97) ∨ (97 ≤ n ∧ n ≤ 122) ∨ 122 < n := by omega
  rcases ways with h | h | h | h | h
  all_goals
    have d1 : decide ((97 : Int) ≤ (n : Int)) = decide (97 ≤ n) := by simp only [decide_eq_decide]; omega
    have d2 : decide ((n : Int) ≤ 122) = decide (n ≤ 122) := by simp only [decide_eq_decide]; omega
    have d3 : decide ((65 : Int) ≤ (n : Int)) = decide (65 ≤ n) := by simp only [decide_eq_decide]; omega
    have d4 : decide ((n : Int) ≤ 90) = decide (n ≤ 90) := by simp only [decide_eq_decide]; omega
    first | rw [decide_eq_true (by omega : 97 ≤ n)] at d1 ⊢ | rw [decide_eq_false (by omega : ¬ 97 ≤ n)] at d1 ⊢
    first | rw [decide_eq_true (by omega : n ≤ 122)] at d2 ⊢ | rw [decide_eq_false (by omega : ¬ n ≤ 122)] at d2 ⊢
    first | rw [decide_eq_true (by omega : 65 ≤ n)] at d3 ⊢ | rw [decide_eq_false (by omega : ¬ 65 ≤ n)] at d3 ⊢
    first | rw [decide_eq_true (by omega : n ≤ 90)] at d4 ⊢ | rw [decide_eq_false (by omega : ¬ n ≤ 90)] at d4 ⊢
    clear h
    go_enter Try.func37, Try.ntmps37
    go_wp2
    go_ret
    exact ⟨rfl, rfl⟩

theorem refDigit (c : UInt8) (w : World) :
    Calls Try.prog 38 #[.int .u8 (c.toNat : Int)] w fun e w' => e = .returned (.bool (digC c)) ∧ w = w' := by
  obtain ⟨n, hn⟩ : ∃ n : Nat, n = c.toNat := ⟨_, rfl⟩
  have HV : Hid (digC c = (decide (48 ≤ n) && decide (n ≤ 57))) := Lib.hid (by rw [hn]; rfl)
  rw [HV.out, ← hn]
  clear HV hn
  have ways : n < 48 ∨ (48 ≤ n ∧ n ≤ 57) ∨ 57 < n := by omega
  rcases ways with h | h | h
  all_goals
    have d1 : decide ((48 : Int) ≤ (n : Int)) = decide (48 ≤ n) := by simp only [decide_eq_decide]; omega
    have d2 : decide ((n : Int) ≤ 57) = decide (n ≤ 57) := by simp only [decide_eq_decide]; omega
    first | rw [decide_eq_true (by omega : 48 ≤ n)] at d1 ⊢ | rw [decide_eq_false (by omega : ¬ 48 ≤ n)] at d1 ⊢
    first | rw [decide_eq_true (by omega : n ≤ 57)] at d2 ⊢ | rw [decide_eq_false (by omega : ¬ n ≤ 57)] at d2 ⊢
    clear h
    go_enter Try.func38, Try.ntmps38
    go_wp2
    go_ret
    exact ⟨rfl, rfl⟩

set_option maxHeartbeats 1000000 in
theorem refAmong (c : UInt8) (s : ByteArray) (w : World) (hs : s.size ≤ 1000000) :
    Calls Try.prog 39 #[.int .u8 (c.toNat : Int), .string s] w fun e w' => e = .returned (.bool (s.data.toList.contains c)) ∧ w = w' := by
  obtain ⟨R, HR⟩ : ∃ R, Hid (s.data.toList.contains c = R) := ⟨_, Lib.hid rfl⟩
  rw [HR.out]
  go_enter Try.func39, Try.ntmps39
  go_wp2
  go_loopg [5] s.size (fun gk s5 wr => ∃ k : Nat, k + gk = s.size ∧ s5 = .int .i64 k ∧ Hid ((s.data.toList.drop k).contains c = R) ∧ w = wr)
  case atStart => exact ⟨0, by omega, rfl, HR, rfl⟩
  case round =>
    obtain ⟨k, hkg, rfl, HI, rfl⟩ := hrel
    cases gk with
    | zero =>
      have hkz : ¬ ((k : Int) < (s.size : Int)) := by omega
      have HE : Hid (R = false) := by
        have := HI.out
        rw [drop_end s k (by omega)] at this
        exact this.symm
      go_wp2
      go_ret
      exact ⟨ret_bool HE.out.symm, rfl⟩
    | succ g' =>
      have hlt : k < s.size := by omega
      by_cases hc : s[k] = c
      · have e58 : (((s[k]'hlt).toNat : Int) == (c.toNat : Int)) = true := by rw [hc]; simp
        have HE : Hid (R = true) := by
          have := HI.out
          rw [drop_at s k hlt, hc] at this
          simp at this
          exact this
        clear hc
        go_wp2
        try rw [Exit.noGoto_ret]
        go_ret
        exact ⟨ret_bool HE.out.symm, rfl⟩
      · have e58 : (((s[k]'hlt).toNat : Int) == (c.toNat : Int)) = false := by
          simp only [beq_eq_false_iff_ne, ne_eq]
          intro h
          exact hc (UInt8.toNat_inj.1 (by omega))
        have HE : Hid ((s.data.toList.drop (k + 1)).contains c = R) := by
          have := HI.out
          rw [drop_at s k hlt] at this
          have e2 : (c == s[k]) = false := by simpa using fun h => hc h.symm
          rw [List.contains_cons, e2, Bool.false_or] at this
          exact this
        clear hc
        go_wp2
        go_roundg g'
        case measure => omega
        case rel => exact ⟨k + 1, by omega, by go_num, HE, rfl⟩

/-- The place of the first colon, or -1. -/
def colI (l : List UInt8) : Int := if hasC l then ((pre l).length : Int) else -1
theorem colI_step (a : UInt8) (l : List UInt8) (h : a ≠ 58) : hasC (a :: l) = hasC l ∧ pre (a :: l) = a :: pre l := by
  have e2 : ((58 : UInt8) == a) = false := by simpa using fun h' => h h'.symm
  refine ⟨?_, by simp [pre, h]⟩
  simp only [hasC, List.contains_cons, e2, Bool.false_or]

set_option maxHeartbeats 1000000 in
theorem refColon (s : ByteArray) (w : World) (hs : s.size ≤ 1000000) :
    Calls Try.prog 29 #[.string s] w fun e w' => e = .returned (.int .i64 (colI s.data.toList)) ∧ w = w' := by
  obtain ⟨R, HR⟩ : ∃ R, Hid (colI s.data.toList = R) := ⟨_, Lib.hid rfl⟩
  rw [HR.out]
  go_enter Try.func29, Try.ntmps29
  go_wp2
  go_loopg [3] s.size (fun gk s3 wr => ∃ k : Nat, k + gk = s.size ∧ s3 = .int .i64 k ∧ Hid ((if hasC (s.data.toList.drop k) then ((pre (s.data.toList.drop k)).length : Int) + k else -1) = R) ∧ w = wr)
  case atStart => exact ⟨0, by omega, rfl, Lib.hid (by rw [← HR.out]; simp [colI]), rfl⟩
  case round =>
    obtain ⟨k, hkg, rfl, HI, rfl⟩ := hrel
    cases gk with
    | zero =>
      have hkz : ¬ ((k : Int) < (s.size : Int)) := by omega
      have HE : Hid (R = -1) := by
        have := HI.out
        rw [drop_end s k (by omega)] at this
        exact this.symm
      go_wp2
      go_ret
      exact ⟨by rw [HE.out]; rfl, rfl⟩
    | succ g' =>
      have hlt : k < s.size := by omega
      by_cases hc : s[k] = 58
      · have e58 : ((s[k]'hlt).toNat : Int) = 58 := by rw [hc]; rfl
        have HE : Hid (R = (k : Int)) := by
          have := HI.out
          rw [drop_at s k hlt, hc] at this
          simp [hasC, pre] at this
          exact this.symm
        clear hc
        go_wp2
        try rw [Exit.noGoto_ret]
        go_ret
        exact ⟨by rw [HE.out]; rfl, rfl⟩
      · have e58 : (((s[k]'hlt).toNat : Int) == 58) = false := by
          simp only [beq_eq_false_iff_ne, ne_eq]
          intro h
          exact hc (UInt8.toNat_inj.1 (by show _ = 58; omega))
        have HE : Hid ((if hasC (s.data.toList.drop (k + 1)) then ((pre (s.data.toList.drop (k + 1))).length : Int) + ((k + 1 : Nat) : Int) else -1) = R) := by
          have := HI.out
          rw [drop_at s k hlt, (colI_step _ _ hc).1, (colI_step _ _ hc).2] at this
          refine Lib.hid ?_
          rw [← this]
          split
          · simp; omega
          · rfl
        clear hc
        go_wp2
        go_roundg g'
        case measure => omega
        case rel => exact ⟨k + 1, by omega, by go_num, HE, rfl⟩
end Go.Proofs.Ytemomaeecelofaa
