/-
  What is proved: what the small helpers of the statements return: outlawkit.Pick (a place below n), outlawlaw04.colon, outlawlaw04.small, at strings of at most 1,000,000 bytes; and how strings that are put together read as lists. No other conditions than those of the theorems.
-/
import Derived.Test.YtemomaeecelofaaIdKinds
import Derived.Lib.SmallJoins
namespace Go.Proofs.Ytemomaeecelofaa
open Go.RowKit

theorem cat_data (a b : ByteArray) : (a ++ b).data.toList = a.data.toList ++ b.data.toList := Joins.data_append a b
theorem cat_size (a b : ByteArray) : (a ++ b).size = a.size + b.size := by rw [Lib.size_eq, cat_data, List.length_append, ← Lib.size_eq, ← Lib.size_eq]
theorem empty_ways (s : ByteArray) : (s.size = 0 ∧ s.toList = [] ∧ s.toList.isEmpty = true ∧ s.data.toList = []) ∨ (0 < s.size ∧ ¬ s.toList = [] ∧ s.toList.isEmpty = false ∧ s.data.toList ≠ []) := by
  have e := Lib.toList_data s
  have hz := Lib.size_eq s
  cases h : s.data.toList with
  | nil => rw [h] at hz e; exact .inl ⟨hz, e, by rw [e]; rfl, rfl⟩
  | cons a l => rw [h] at hz e; exact .inr ⟨by simp at hz; omega, by rw [e]; simp, by rw [e]; rfl, by simp⟩

set_option maxHeartbeats 1000000 in
theorem colon_any (s : ByteArray) (w : World) (hs : s.size ≤ 1000000) :
    Calls Try.prog 23 #[.string s] w fun e w' => e = .returned (.bool (hasC s.data.toList)) ∧ w = w' := by
  obtain ⟨R, HR⟩ : ∃ R, Hid (hasC s.data.toList = R) := ⟨_, Lib.hid rfl⟩
  rw [HR.out]
  go_enter Try.func23, Try.ntmps23
  go_wp2
  go_loopg [3] s.size (fun gk s3 wr => ∃ k : Nat, k + gk = s.size ∧ s3 = .int .i64 k ∧ Hid (hasC (s.data.toList.drop k) = R) ∧ w = wr)
  case atStart => exact ⟨0, by omega, rfl, HR, rfl⟩
  case round =>
    obtain ⟨k, hkg, rfl, HI, rfl⟩ := hrel
    cases gk with
    | zero =>
      have hkz : ¬ ((k : Int) < (s.size : Int)) := by omega
      have HE : Hid (R = false) := by
        have := HI.out
        rw [drop_end s k (by omega)] at this
        exact this.symm
      go_wp2
      go_ret
      exact ⟨ret_bool HE.out.symm, rfl⟩
    | succ g' =>
      have hlt : k < s.size := by omega
      by_cases hc : s[k] = 58
      · have e58 : ((s[k]'hlt).toNat : Int) = 58 := by rw [hc]; rfl
        have HE : Hid (R = true) := by
          have := HI.out
          rw [drop_at s k hlt, hc] at this
          simp [hasC] at this
          exact this
        clear hc
        go_wp2
        try rw [Exit.noGoto_ret]
        go_ret
        exact ⟨ret_bool HE.out.symm, rfl⟩
      · have e58 : (((s[k]'hlt).toNat : Int) == 58) = false := by
          simp only [beq_eq_false_iff_ne, ne_eq]
          intro h
          exact hc (UInt8.toNat_inj.1 (by show _ = 58; omega))
        have HE : Hid (hasC (s.data.toList.drop (k + 1)) = R) := by
          have := HI.out
          rw [drop_at s k hlt] at this
          have e2 : ((58 : UInt8) == s[k]) = false := by simpa using fun h => hc h.symm
          simp only [hasC, List.contains_cons, e2, Bool.false_or] at this
          exact this
        clear hc
        go_wp2
        go_roundg g'
        case measure => omega
        case rel => exact ⟨k + 1, by omega, by go_num, HE, rfl⟩

theorem userC_spec (c : UInt8) : userC c = ((decide (97 ≤ c.toNat) && decide (c.toNat ≤ 122)) || (decide (48 ≤ c.toNat) && decide (c.toNat ≤ 57)) || c == 46 || c == 95 || c == 61 || c == 45 || c == 47 || c == 43) := by
  have := all_bytes (p := fun c => decide (userC c = ((decide (97 ≤ c.toNat) && decide (c.toNat ≤ 122)) || (decide (48 ≤ c.toNat) && decide (c.toNat ≤ 57)) || c == 46 || c == 95 || c == 61 || c == 45 || c == 47 || c == 43))) (by decide +kernel) c
  simpa using this

/-- The ways of a byte that the tests part. -/
theorem user_ways (c : UInt8) :
    (userC c = true ∧ ((97 ≤ c.toNat ∧ c.toNat ≤ 122) ∨ (48 ≤ c.toNat ∧ c.toNat ≤ 57) ∨ c.toNat = 46 ∨ c.toNat = 95 ∨ c.toNat = 61 ∨ c.toNat = 45 ∨ c.toNat = 47 ∨ c.toNat = 43)) ∨
    (userC c = false ∧ (c.toNat < 43 ∨ c.toNat = 44 ∨ (57 < c.toNat ∧ c.toNat < 61) ∨ (61 < c.toNat ∧ c.toNat < 95) ∨ c.toNat = 96 ∨ 122 < c.toNat)) := by
  have := all_bytes (p := fun c => decide ((userC c = true ∧ ((97 ≤ c.toNat ∧ c.toNat ≤ 122) ∨ (48 ≤ c.toNat ∧ c.toNat ≤ 57) ∨ c.toNat = 46 ∨ c.toNat = 95 ∨ c.toNat = 61 ∨ c.toNat = 45 ∨ c.toNat = 47 ∨ c.toNat = 43)) ∨
    (userC c = false ∧ (c.toNat < 43 ∨ c.toNat = 44 ∨ (57 < c.toNat ∧ c.toNat < 61) ∨ (61 < c.toNat ∧ c.toNat < 95) ∨ c.toNat = 96 ∨ 122 < c.toNat)))) (by decide +kernel) c
  simpa using this

set_option maxHeartbeats 4000000 in
theorem small_any (s : ByteArray) (w : World) (hs : s.size ≤ 1000000) :
    Calls Try.prog 24 #[.string s] w fun e w' => e = .returned (.bool (onlyL userC s.data.toList)) ∧ w = w' := by
  have HE : Hid (onlyL userC s.data.toList = (s.data.toList.all userC && decide (0 < s.size))) := by
    refine Lib.hid ?_
    unfold onlyL
    rw [Lib.size_eq]
    cases s.data.toList <;> simp
  obtain ⟨R, HR⟩ : ∃ R, Hid (s.data.toList.all userC = R) := ⟨_, Lib.hid rfl⟩
  rw [HE.out, HR.out]
  clear HE
  have hways := empty_ways s
  rcases hways with ⟨z1, z2, z3, z4⟩ | ⟨z1, z2, z3, _⟩
  · have HX : Hid (R = true) := Lib.hid (by rw [← HR.out, z4]; rfl)
    have hlt : ¬ ((0 : Int) < (s.size : Int)) := by omega
    clear z4 HR
    go_enter Try.func24, Try.ntmps24
    go_wp2
    go_loopg [3] 0 (fun gk s3 wr => s3 = .int .i64 0 ∧ w = wr)
    case atStart => exact ⟨rfl, rfl⟩
    case round =>
      obtain ⟨rfl, rfl⟩ := hrel
      go_wp2
      go_ret
      exact ⟨ret_bool (by rw [HX.out, z1]; rfl), rfl⟩
  go_enter Try.func24, Try.ntmps24
  go_wp2
  go_loopg [3] s.size (fun gk s3 wr => ∃ k : Nat, k + gk = s.size ∧ s3 = .int .i64 k ∧ Hid ((s.data.toList.drop k).all userC = R) ∧ w = wr)
  case atStart => exact ⟨0, by omega, rfl, HR, rfl⟩
  case round =>
    obtain ⟨k, hkg, rfl, HI, rfl⟩ := hrel
    cases gk with
    | zero =>
      have hkz : ¬ ((k : Int) < (s.size : Int)) := by omega
      have HE : Hid (R = true) := by
        have := HI.out
        rw [drop_end s k (by omega)] at this
        exact this.symm
      go_wp2
      go_ret
      exact ⟨ret_bool (by rw [HE.out]), rfl⟩
    | succ g' =>
      have hlt : k < s.size := by omega
      have hways := user_ways (s[k]'hlt)
      have hall := all_drop (p := userC) s k hlt
      obtain ⟨c, hc⟩ : ∃ c : Nat, c = (s[k]'hlt).toNat := ⟨_, rfl⟩
      rw [← hc] at hways
      have hcu : c < 256 := by rw [hc]; exact (s[k]'hlt).toNat_lt
      rcases hways with ⟨hp, hways⟩ | ⟨hp, hways⟩
      · have HE : Hid ((s.data.toList.drop (k + 1)).all userC = R) := by
          have := HI.out
          rw [hall, hp] at this
          exact this
        clear hp hall HI
        rcases hways with h | h | h | h | h | h | h | h
        all_goals
          have d1 : decide ((97 : Int) ≤ (c : Int)) = decide (97 ≤ c) := by simp only [decide_eq_decide]; omega
          have d2 : decide ((c : Int) ≤ 122) = decide (c ≤ 122) := by simp only [decide_eq_decide]; omega
          have d3 : decide ((48 : Int) ≤ (c : Int)) = decide (48 ≤ c) := by simp only [decide_eq_decide]; omega
          have d4 : decide ((c : Int) ≤ 57) = decide (c ≤ 57) := by simp only [decide_eq_decide]; omega
          first | rw [decide_eq_true (by omega : 97 ≤ c)] at d1 | rw [decide_eq_false (by omega : ¬ 97 ≤ c)] at d1
          first | rw [decide_eq_true (by omega : c ≤ 122)] at d2 | rw [decide_eq_false (by omega : ¬ c ≤ 122)] at d2
          first | rw [decide_eq_true (by omega : 48 ≤ c)] at d3 | rw [decide_eq_false (by omega : ¬ 48 ≤ c)] at d3
          first | rw [decide_eq_true (by omega : c ≤ 57)] at d4 | rw [decide_eq_false (by omega : ¬ c ≤ 57)] at d4
          have e1 : ((c : Int) == 46) = decide (c = 46) := by rw [Bool.eq_iff_iff]; simp; omega
          have e2 : ((c : Int) == 95) = decide (c = 95) := by rw [Bool.eq_iff_iff]; simp; omega
          have e3 : ((c : Int) == 61) = decide (c = 61) := by rw [Bool.eq_iff_iff]; simp; omega
          have e4 : ((c : Int) == 45) = decide (c = 45) := by rw [Bool.eq_iff_iff]; simp; omega
          have e5 : ((c : Int) == 47) = decide (c = 47) := by rw [Bool.eq_iff_iff]; simp; omega
          have e6 : ((c : Int) == 43) = decide (c = 43) := by rw [Bool.eq_iff_iff]; simp; omega
          first | rw [decide_eq_true (by omega : c = 46)] at e1 | rw [decide_eq_false (by omega : ¬ c = 46)] at e1
          first | rw [decide_eq_true (by omega : c = 95)] at e2 | rw [decide_eq_false (by omega : ¬ c = 95)] at e2
          first | rw [decide_eq_true (by omega : c = 61)] at e3 | rw [decide_eq_false (by omega : ¬ c = 61)] at e3
          first | rw [decide_eq_true (by omega : c = 45)] at e4 | rw [decide_eq_false (by omega : ¬ c = 45)] at e4
          first | rw [decide_eq_true (by omega : c = 47)] at e5 | rw [decide_eq_false (by omega : ¬ c = 47)] at e5
          first | rw [decide_eq_true (by omega : c = 43)] at e6 | rw [decide_eq_false (by omega : ¬ c = 43)] at e6
          rw [hc] at d1 d2 d3 d4 e1 e2 e3 e4 e5 e6
          clear h hc
          go_wp2
          go_roundg g'
          case measure => omega
          case rel => exact ⟨k + 1, by omega, by go_num, HE, rfl⟩
      · have HE : Hid (R = false) := by
          have := HI.out
          rw [hall, hp] at this
          exact this.symm
        clear hp hall HI
        rcases hways with h | h | h | h | h | h
        all_goals
          have d1 : decide ((97 : Int) ≤ (c : Int)) = decide (97 ≤ c) := by simp only [decide_eq_decide]; omega
          have d2 : decide ((c : Int) ≤ 122) = decide (c ≤ 122) := by simp only [decide_eq_decide]; omega
          have d3 : decide ((48 : Int) ≤ (c : Int)) = decide (48 ≤ c) := by simp only [decide_eq_decide]; omega
          have d4 : decide ((c : Int) ≤ 57) = decide (c ≤ 57) := by simp only [decide_eq_decide]; omega
          first | rw [decide_eq_true (by omega : 97 ≤ c)] at d1 | rw [decide_eq_false (by omega : ¬ 97 ≤ c)] at d1
          first | rw [decide_eq_true (by omega : c ≤ 122)] at d2 | rw [decide_eq_false (by omega : ¬ c ≤ 122)] at d2
          first | rw [decide_eq_true (by omega : 48 ≤ c)] at d3 | rw [decide_eq_false (by omega : ¬ 48 ≤ c)] at d3
          first | rw [decide_eq_true (by omega : c ≤ 57)] at d4 | rw [decide_eq_false (by omega : ¬ c ≤ 57)] at d4
          have e1 : ((c : Int) == 46) = false := by simp; omega
          have e2 : ((c : Int) == 95) = false := by simp; omega
          have e3 : ((c : Int) == 61) = false := by simp; omega
          have e4 : ((c : Int) == 45) = false := by simp; omega
          have e5 : ((c : Int) == 47) = false := by simp; omega
          have e6 : ((c : Int) == 43) = false := by simp; omega
          rw [hc] at d1 d2 d3 d4 e1 e2 e3 e4 e5 e6
          clear h hc
          go_wp2
          try rw [Exit.noGoto_ret]
          go_ret
          exact ⟨ret_bool (by rw [HE.out]; rfl), rfl⟩

theorem pick_any (x : Int) (n : Nat) (w : World) (hn0 : 0 < n) (hn : n ≤ 1000000) :
    Calls Try.prog 25 #[.int .i64 x, .int .i64 n] w fun e w' => ∃ k : Nat, k < n ∧ e = .returned (.int .i64 k) ∧ w = w' := by
  have h1 : decide ((n : Int) < 1) = false := by simp; omega
  have hr0 : x.tmod n < n := Int.tmod_lt_of_pos x (by omega)
  have hr1 : -(n : Int) < x.tmod n := Int.lt_tmod_of_pos x (by omega)
  have hnz : ((n : Int) == 0) = false := by simp; omega
  obtain ⟨r, hr⟩ : ∃ r, r = x.tmod n := ⟨_, rfl⟩
  rw [← hr] at hr0 hr1
  have hr' := hr.symm
  clear hr
  by_cases hneg : r < 0
  · have h2 : decide (r < 0) = true := by simpa using hneg
    go_enter Try.func25, Try.ntmps25
    go_wp2
    go_ret
    refine ⟨(r + n).toNat, by omega, ?_, rfl⟩
    have : (((r + n).toNat : Nat) : Int) = r + n := by omega
    rw [this]; rfl
  · have h2 : decide (r < 0) = false := by simpa using hneg
    go_enter Try.func25, Try.ntmps25
    go_wp2
    go_ret
    refine ⟨r.toNat, by omega, ?_, rfl⟩
    have : ((r.toNat : Nat) : Int) = r := by omega
    rw [this]; rfl
end Go.Proofs.Ytemomaeecelofaa
