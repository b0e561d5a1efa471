/-
  What is proved: outlawlaw01.ScanNumbers returns true for any two numbers and any bytes that follow. Condition: the package-level table internal/strconv.uint64pow10 holds the powers of ten (the card ties it to the program's text).
-/
import Derived.Test.YtobdogkdlopifaaRRDoorRRNum
import Derived.Test.YtobdogkdlopifaaRRDoorRRLives
import Derived.Lib.ItoaLen
namespace Go.Proofs.YtobdogkdlopifaaRRDoorRR
open Go.RowKit

theorem gPow : Tryd.prog.globalNamed "internal/strconv.uint64pow10" = some 0 := by kernel_rfl
theorem tab_on {w w' : World} (h : Lib.TabIs Tryd.prog w "internal/strconv.uint64pow10" .u64 Lib.pow10Tab) (hb : Below w.heap.size w w') : Lib.TabIs Tryd.prog w' "internal/strconv.uint64pow10" .u64 Lib.pow10Tab := by
  exact Joins.tab_stays gPow h hb (Nat.le_refl _)

theorem toList_nil (s : ByteArray) (h : s.size = 0) : s.toList = [] := by
  rw [Lib.toList_data]
  have : s.data.toList.length = 0 := by rw [← Lib.size_eq]; exact h
  exact List.length_eq_zero_iff.1 this
theorem data_cons (s : ByteArray) (h : 0 < s.size) : s.data.toList = s[0] :: s.data.toList.drop 1 := by
  have := drop_at s 0 h
  simpa using this

theorem behind_ways (s : ByteArray) (h : noDig s.data.toList) : (s.toList = [] ∧ s.toList.isEmpty = true) ∨ ∃ h : 0 < s.size, s.toList.isEmpty = false ∧ ¬ s.toList = [] ∧ ((s[0].toNat : Int) < 48 ∨ (48 ≤ (s[0].toNat : Int) ∧ 57 < (s[0].toNat : Int) ∧ decide ((s[0].toNat : Int) ≤ 57) = false)) := by
  by_cases hs : 0 < s.size
  · have hne := nonempty_of s hs
    have := (isDig_false_iff _).1 (h _ _ (data_cons s hs))
    refine .inr ⟨hs, hne, by rwa [List.isEmpty_eq_false_iff] at hne, ?_⟩
    rcases this with h | h
    · exact .inl (by omega)
    · exact .inr ⟨by omega, by omega, by simp; omega⟩
  · have := toList_nil s (by omega)
    exact .inl ⟨this, by rw [this]; rfl⟩

theorem numStr_data (n : Int) : (numStr n).data.toList = Lib.itoa n := by simp [numStr]
theorem numStr_le (n : Int) (h0 : -9007199254740991 ≤ n) (h1 : n ≤ 9007199254740991) : (numStr n).size ≤ 21 := by
  rw [Lib.size_eq, numStr_data]
  exact Lib.itoa_length_le n (by omega) (by omega)
theorem head_of (d : ByteArray) (c : UInt8) (l : List UInt8) (h : d.data.toList = c :: l) : ∃ hd : 0 < d.size, d[0] = c := by
  have hs : 0 < d.size := by rw [Lib.size_eq, h]; simp
  refine ⟨hs, ?_⟩
  have := data_cons d hs
  rw [h] at this
  exact (List.cons.inj this).1.symm

theorem read_back (n : Int) (s : ByteArray) (w : World) (hs : s.size ≤ 2000) (hnd : noDig s.data.toList) (h0 : -9007199254740991 ≤ n) (h1 : n ≤ 9007199254740991) :
    Calls Tryd.prog 6 #[.string (numStr n ++ s)] w fun e w' => e = .returned (.tuple #[.int .i64 n, .int .i64 (numStr n).size, .int .i64 0]) ∧ w = w' := by
  have hl := Lib.itoa_length_le n (by omega) (by omega)
  have hdata : (numStr n ++ s).data.toList = Lib.itoa n ++ s.data.toList := by rw [Joins.data_append, numStr_data]
  have hsz : (numStr n).size = (Lib.itoa n).length := by rw [Lib.size_eq, numStr_data]
  have hss : s.size = s.data.toList.length := Lib.size_eq s
  by_cases hn : n < 0
  · obtain ⟨u, hu⟩ : ∃ u : Nat, u = n.natAbs := ⟨_, rfl⟩
    have hi : Lib.itoa n = 45 :: Lib.decDigits u := by unfold Lib.itoa; rw [if_pos hn, hu]
    obtain ⟨c, l, hc, hdig, h48⟩ := decDigits_head u
    obtain ⟨hd0, hdc⟩ := head_of ⟨(Lib.decDigits u ++ s.data.toList).toArray⟩ c (l ++ s.data.toList) (by rw [hc]; rfl)
    have hr := rdFrom_decDigits u (by omega) _ hnd
    rw [hi] at hl hsz
    simp only [List.length_cons] at hl hsz
    have := readNumber_neg (numStr n ++ s) w (by rw [hdata, hi]; rfl) ⟨(Lib.decDigits u ++ s.data.toList).toArray⟩ (by rw [hdata, hi]; rfl) hd0 (by rw [hdc]; exact hdig) u (Lib.decDigits u).length hr (by rw [hdc]; intro h; have := (h48 h).1; omega) (by omega) (by omega) (by rw [Lib.size_eq]; simp; omega) (by omega)
    refine this.mono ?_
    rintro e w' ⟨rfl, rfl⟩
    refine ⟨?_, rfl⟩
    have e1 : -(u : Int) = n := by omega
    have e2 : ((Lib.decDigits u).length : Int) + 1 = ((numStr n).size : Int) := by omega
    rw [e1, e2]
  · obtain ⟨u, hu⟩ : ∃ u : Nat, u = n.toNat := ⟨_, rfl⟩
    have hi : Lib.itoa n = Lib.decDigits u := by unfold Lib.itoa; rw [if_neg hn, hu]
    obtain ⟨c, l, hc, hdig, h48⟩ := decDigits_head u
    have hr := rdFrom_decDigits u (by omega) _ hnd
    have hd2 : (numStr n ++ s).data.toList = c :: (l ++ s.data.toList) := by rw [hdata, hi, hc]; rfl
    obtain ⟨hd0, hdc⟩ := head_of (numStr n ++ s) _ _ hd2
    have h45 : c ≠ 45 := by intro e; rw [e, isDig_iff] at hdig; have : (45 : UInt8).toNat = 45 := rfl; omega
    have hp : Lib.hasPrefix (numStr n ++ s).data.toList [45] = false := by
      rw [hd2]
      simp [Lib.hasPrefix, List.isPrefixOf]
      exact fun e => h45 e.symm
    rw [hi] at hl hsz
    have := readNumber_pos (numStr n ++ s) w hp (numStr n ++ s) (by unfold Lib.trimPrefix; rw [hp]; rfl) hd0 (by rw [hdc]; exact hdig) u (Lib.decDigits u).length (by rw [hdata, hi]; exact hr)
      (by rw [hdc]; intro h; have := (h48 h).2; rw [hc, this]; simp) (by omega) (by omega) (by rw [Lib.size_eq, hdata, hi]; simp; omega) (by omega)
    refine this.mono ?_
    rintro e w' ⟨rfl, rfl⟩
    refine ⟨?_, rfl⟩
    have e1 : (u : Int) = n := by omega
    rw [e1, ← hsz]

theorem ret_bool {a b : Bool} (h : a = b) : Ending.returned (.bool a) = Ending.returned (.bool b) := by rw [h]
theorem same_texts {m n : Int} (hm0 : -9007199254740991 ≤ m) (hm1 : m ≤ 9007199254740991) (hn0 : -9007199254740991 ≤ n) (hn1 : n ≤ 9007199254740991) :
    (((numStr n).toList == (numStr m).toList) == (m == n)) = true := by
  rw [Lib.toList_data, Lib.toList_data, numStr_data, numStr_data]
  by_cases h : m = n
  · subst h; simp
  · have h1 : (m == n) = false := by simpa using h
    have h2 : (Lib.itoa n == Lib.itoa m) = false := by
      simp only [beq_eq_false_iff_ne, ne_eq]
      exact fun e => h (itoa_inj hm0 hm1 hn0 hn1 e.symm)
    rw [h1, h2]; rfl
theorem number_out (n : Int) (w : World) (h : n < -9007199254740991 ∨ 9007199254740991 < n) :
    Calls Tryd.prog 5 #[.int .i64 n] w fun e w' => e = .returned (.tuple #[.string ⟨#[]⟩, .int .i64 2]) ∧ w = w' := by
  rcases h with h | h
  · exact number_lo n w h
  · exact number_hi n w h

set_option maxHeartbeats 1000000 in
theorem numbers_in (m n : Int) (s : ByteArray) (w : World) (hs : s.size ≤ 2000) (hnd : noDig s.data.toList) (h0 : -9007199254740991 ≤ n) (h1 : n ≤ 9007199254740991)
    (h2 : -9007199254740991 ≤ m) (h3 : m ≤ 9007199254740991) (htab : Lib.TabIs Tryd.prog w "internal/strconv.uint64pow10" .u64 Lib.pow10Tab) :
    Calls Tryd.prog 3 #[.int .i64 m, .int .i64 n, .string s] w fun e w' => e = .returned (.bool true) ∧ Below w.heap.size w w' := by
  have hways := behind_ways s hnd
  have HT := Lib.hid htab
  have HN := Lib.hid hnd
  clear htab hnd
  have CL := Lib.hid (lives_any w)
  have hzn := numStr_le n h0 h1
  have g0 : decide (n < -9007199254740991) = false := by simp; omega
  have g1 : decide (9007199254740991 < n) = false := by simp; omega
  have g2 : decide (2000 < (s.size : Int)) = false := by simp; omega
  rcases hways with ⟨e1, e2⟩ | ⟨e0, e1, e2, e3 | ⟨e3, e4, e5⟩⟩
  all_goals
    go_enter Tryd.func3, Tryd.ntmps3
    go_wp2_with (go_at_call 4; refine CL.out.mono ?_; rintro e w1 ⟨rfl, b1⟩)
    have T1 := Lib.hid (tab_on HT.out b1)
    refine (number_in n w1 h0 h1 T1.out).mono ?_
    rintro e w2 ⟨rfl, b2⟩
    have b12 := b1.trans (b2.mono b1.size)
    clear b1 b2 T1
    go_wp2_with fail
    have T2 := Lib.hid (tab_on HT.out b12)
    refine (number_in m w2 h2 h3 T2.out).mono ?_
    rintro e w3 ⟨rfl, b3⟩
    have b13 := b12.trans (b3.mono b12.size)
    clear b12 b3 T2
    go_wp2_with fail
    refine (read_back n s w3 hs HN.out h0 h1).mono ?_
    rintro e w4 ⟨rfl, rfl⟩
    go_wp2_with fail
    go_ret
    exact ⟨ret_bool (same_texts h2 h3 h0 h1), b13⟩

set_option maxHeartbeats 1000000 in
theorem numbers_one (m n : Int) (s : ByteArray) (w : World) (hs : s.size ≤ 2000) (hnd : noDig s.data.toList) (h0 : -9007199254740991 ≤ n) (h1 : n ≤ 9007199254740991)
    (h2 : m < -9007199254740991 ∨ 9007199254740991 < m) (htab : Lib.TabIs Tryd.prog w "internal/strconv.uint64pow10" .u64 Lib.pow10Tab) :
    Calls Tryd.prog 3 #[.int .i64 m, .int .i64 n, .string s] w fun e w' => e = .returned (.bool true) ∧ Below w.heap.size w w' := by
  have hways := behind_ways s hnd
  have HT := Lib.hid htab
  have HN := Lib.hid hnd
  clear htab hnd
  have CL := Lib.hid (lives_any w)
  have hzn := numStr_le n h0 h1
  have CM := Lib.hid fun w1 => number_out m w1 h2
  clear h2
  have g0 : decide (n < -9007199254740991) = false := by simp; omega
  have g1 : decide (9007199254740991 < n) = false := by simp; omega
  have g2 : decide (2000 < (s.size : Int)) = false := by simp; omega
  rcases hways with ⟨e1, e2⟩ | ⟨e0, e1, e2, e3 | ⟨e3, e4, e5⟩⟩
  all_goals
    go_enter Tryd.func3, Tryd.ntmps3
    go_wp2_with (go_at_call 4; refine CL.out.mono ?_; rintro e w1 ⟨rfl, b1⟩)
    have T1 := Lib.hid (tab_on HT.out b1)
    refine (number_in n w1 h0 h1 T1.out).mono ?_
    rintro e w2 ⟨rfl, b2⟩
    have b12 := b1.trans (b2.mono b1.size)
    clear b1 b2 T1
    go_wp2_with fail
    refine (CM.out w2).mono ?_
    rintro e w3 ⟨rfl, rfl⟩
    go_wp2_with fail
    refine (read_back n s w2 hs HN.out h0 h1).mono ?_
    rintro e w4 ⟨rfl, rfl⟩
    go_wp2_with fail
    go_ret
    exact ⟨rfl, b12⟩

set_option maxHeartbeats 1000000 in
theorem numbers_none (m n : Int) (s : ByteArray) (w : World) (hs : s.size ≤ 2000) (hnd : noDig s.data.toList) (h2 : n < -9007199254740991 ∨ 9007199254740991 < n) :
    Calls Tryd.prog 3 #[.int .i64 m, .int .i64 n, .string s] w fun e w' => e = .returned (.bool true) ∧ Below w.heap.size w w' := by
  have hways := behind_ways s hnd
  clear hnd
  have CL := Lib.hid (lives_any w)
  have CM := Lib.hid fun w1 => number_out n w1 h2
  have g2 : decide (2000 < (s.size : Int)) = false := by simp; omega
  have g3 : (decide (n < -9007199254740991) = true) ∨ (decide (n < -9007199254740991) = false ∧ decide (9007199254740991 < n) = true) := by
    rcases h2 with h | h
    · exact .inl (by simpa using h)
    · exact .inr ⟨by simp; omega, by simpa using h⟩
  clear h2
  rcases hways with ⟨e1, e2⟩ | ⟨e0, e1, e2, e3 | ⟨e3, e4, e5⟩⟩
  all_goals
    rcases g3 with g3 | ⟨g3, g4⟩
  all_goals
    go_enter Tryd.func3, Tryd.ntmps3
    go_wp2_with (go_at_call 4; refine CL.out.mono ?_; rintro e w1 ⟨rfl, b1⟩)
    refine (CM.out w1).mono ?_
    rintro e w3 ⟨rfl, rfl⟩
    go_wp2_with fail
    go_ret
    exact ⟨rfl, b1⟩

set_option maxHeartbeats 1000000 in
theorem numbers_skip (m n : Int) (s : ByteArray) (w : World) (h : 2000 < s.size ∨ ∃ h0 : 0 < s.size, isDig s[0] = true) (hm : s.size ≤ maxLen) :
    Calls Tryd.prog 3 #[.int .i64 m, .int .i64 n, .string s] w fun e w' => e = .returned (.bool true) ∧ Below w.heap.size w w' := by
  have CL := Lib.hid (lives_any w)
  unfold maxLen at hm
  by_cases hl : 2000 < s.size
  · have g2 : decide (2000 < (s.size : Int)) = true := by simp; omega
    clear h
    go_enter Tryd.func3, Tryd.ntmps3
    go_wp2_with (go_at_call 4; refine CL.out.mono ?_; rintro e w1 ⟨rfl, b1⟩)
    go_ret
    exact ⟨rfl, b1⟩
  · obtain ⟨e0, hd⟩ : ∃ h0 : 0 < s.size, isDig s[0] = true := h.resolve_left hl
    clear h
    have g2 : decide (2000 < (s.size : Int)) = false := by simp; omega
    have e1 := nonempty_of s e0
    have e2 : ¬ s.toList = [] := by rwa [List.isEmpty_eq_false_iff] at e1
    have hd' := (isDig_iff _).1 hd
    have e3 : 48 ≤ (s[0].toNat : Int) := by omega
    have e4 : decide ((s[0].toNat : Int) ≤ 57) = true := by simp; omega
    clear hd hd'
    go_enter Tryd.func3, Tryd.ntmps3
    go_wp2_with (go_at_call 4; refine CL.out.mono ?_; rintro e w1 ⟨rfl, b1⟩)
    go_ret
    exact ⟨rfl, b1⟩

/-- The law, for every input. -/
theorem numbers_any (m n : Int) (s : ByteArray) (w : World) (hm : s.size ≤ maxLen) (htab : Lib.TabIs Tryd.prog w "internal/strconv.uint64pow10" .u64 Lib.pow10Tab) :
    Calls Tryd.prog 3 #[.int .i64 m, .int .i64 n, .string s] w fun e w' => e = .returned (.bool true) ∧ Below w.heap.size w w' := by
  by_cases hl : 2000 < s.size
  · exact numbers_skip m n s w (.inl hl) hm
  · by_cases hd : ∃ h0 : 0 < s.size, isDig s[0] = true
    · exact numbers_skip m n s w (.inr hd) hm
    · have hnd : noDig s.data.toList := by
        intro c l e
        obtain ⟨h0, hc⟩ := head_of s c l e
        cases h : isDig c with
        | false => rfl
        | true => exact absurd ⟨h0, by rw [hc]; exact h⟩ hd
      by_cases h2 : n < -9007199254740991 ∨ 9007199254740991 < n
      · exact numbers_none m n s w (by omega) hnd h2
      · by_cases h3 : m < -9007199254740991 ∨ 9007199254740991 < m
        · exact numbers_one m n s w (by omega) hnd (by omega) (by omega) h3 htab
        · exact numbers_in m n s w (by omega) hnd (by omega) (by omega) (by omega) (by omega) htab
end Go.Proofs.YtobdogkdlopifaaRRDoorRR
