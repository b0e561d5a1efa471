/-
  What is proved: what the document's own answers (package outlawref04) return: host, port, Server, EventID: the same functions on lists of bytes (IdMath) that package ident's contracts are told by. Conditions: strings of at most 1,000,000 bytes.
-/
import Derived.Test.YtemomaeecelofaaIdRef
namespace Go.Proofs.Ytemomaeecelofaa
open Go.RowKit

theorem host_spec (b : UInt8) : hostC b = ((lowC b || capC b) || (digC b || [46, 45].contains b)) := by
  have := all_bytes (p := fun b => decide (hostC b = ((lowC b || capC b) || (digC b || [46, 45].contains b)))) (by decide +kernel) b
  simpa using this
theorem ev_spec (b : UInt8) : evC b = ((lowC b || capC b) || (digC b || [95, 45, 46, 126, 47].contains b)) := by
  have := all_bytes (p := fun b => decide (evC b = ((lowC b || capC b) || (digC b || [95, 45, 46, 126, 47].contains b)))) (by decide +kernel) b
  simpa using this

set_option maxHeartbeats 4000000 in
theorem refHost (s : ByteArray) (w : World) (hs : s.size ≤ 1000000) :
    Calls Try.prog 30 #[.string s] w fun e w' => e = .returned (.bool (hostL s.data.toList)) ∧ w = w' := by
  have HE : Hid (hostL s.data.toList = (s.data.toList.all hostC && decide (0 < s.size))) := by
    refine Lib.hid ?_
    unfold hostL onlyL
    rw [Lib.size_eq]
    cases s.data.toList <;> simp
  obtain ⟨R, HR⟩ : ∃ R, Hid (s.data.toList.all hostC = R) := ⟨_, Lib.hid rfl⟩
  rw [HE.out, HR.out]
  clear HE
  have hways := empty_ways s
  rcases hways with ⟨z1, z2, z3, z4⟩ | ⟨z1, z2, z3, _⟩
  · have HX : Hid (R = true) := Lib.hid (by rw [← HR.out, z4]; rfl)
    have hlt : ¬ ((0 : Int) < (s.size : Int)) := by omega
    clear z4 HR
    go_enter Try.func30, Try.ntmps30
    go_wp2
    go_loopg [3] 0 (fun gk s3 wr => s3 = .int .i64 0 ∧ w = wr)
    case atStart => exact ⟨rfl, rfl⟩
    case round =>
      obtain ⟨rfl, rfl⟩ := hrel
      go_wp2
      go_ret
      exact ⟨ret_bool (by rw [HX.out, z1]; rfl), rfl⟩
  go_enter Try.func30, Try.ntmps30
  go_wp2
  go_loopg [3] s.size (fun gk s3 wr => ∃ k : Nat, k + gk = s.size ∧ s3 = .int .i64 k ∧ Hid ((s.data.toList.drop k).all hostC = R) ∧ w = wr)
  case atStart => exact ⟨0, by omega, rfl, HR, rfl⟩
  case round =>
    obtain ⟨k, hkg, rfl, HI, rfl⟩ := hrel
    cases gk with
    | zero =>
      have hkz : ¬ ((k : Int) < (s.size : Int)) := by omega
      have HE : Hid (R = true) := by
        have := HI.out
        rw [drop_end s k (by omega)] at this
        exact this.symm
      go_wp2
      go_ret
      exact ⟨ret_bool (by rw [HE.out]), rfl⟩
    | succ g' =>
      have hlt : k < s.size := by omega
      have hall := all_drop (p := hostC) s k hlt
      obtain ⟨b, hb⟩ : ∃ b : UInt8, b = s[k]'hlt := ⟨_, rfl⟩
      rw [← hb] at hall
      have hsp := host_spec b
      have C1 := Lib.hid (refLetter b w)
      have C2 := Lib.hid (refDigit b w)
      have C3 := Lib.hid (refAmong b ⟨#[46, 45]⟩ w (by decide))
      cases h1 : (lowC b || capC b) with
      | true =>
        rw [h1] at C1 hsp
        have hp : hostC b = true := by rw [hsp]; rfl
        have HE : Hid ((s.data.toList.drop (k + 1)).all hostC = R) := by have := HI.out; rw [hall, hp, Bool.true_and] at this; exact this
        rw [hb] at C1
        clear h1 hsp hp hall hb
        go_wp2_with (go_at_call 37; refine C1.out.mono ?_; rintro e w' ⟨rfl, rfl⟩)
        go_roundg g'
        case measure => omega
        case rel => exact ⟨k + 1, by omega, by go_num, HE, rfl⟩
      | false =>
        cases h2 : digC b with
        | true =>
          rw [h1] at C1 hsp
          rw [h2] at C2 hsp
          have hp : hostC b = true := by rw [hsp]; rfl
          have HE : Hid ((s.data.toList.drop (k + 1)).all hostC = R) := by have := HI.out; rw [hall, hp, Bool.true_and] at this; exact this
          rw [hb] at C1 C2
          clear h1 h2 hsp hp hall hb
          go_wp2_with (first | (go_at_call 37; refine C1.out.mono ?_; rintro e w' ⟨rfl, rfl⟩) | (go_at_call 38; refine C2.out.mono ?_; rintro e w' ⟨rfl, rfl⟩))
          go_roundg g'
          case measure => omega
          case rel => exact ⟨k + 1, by omega, by go_num, HE, rfl⟩
        | false =>
          cases h3 : ([46, 45] : List UInt8).contains b with
          | true =>
            rw [h1] at C1 hsp
            rw [h2] at C2 hsp
            rw [h3] at hsp
            have C3 : Hid (Calls Try.prog 39 #[.int .u8 (b.toNat : Int), .string ⟨#[46, 45]⟩] w fun e w' => e = .returned (.bool true) ∧ w = w') := Lib.hid (by rw [← h3]; exact C3.out)
            have hp : hostC b = true := by rw [hsp]; rfl
            have HE : Hid ((s.data.toList.drop (k + 1)).all hostC = R) := by have := HI.out; rw [hall, hp, Bool.true_and] at this; exact this
            rw [hb] at C1 C2 C3
            clear h1 h2 h3 hsp hp hall hb
            go_wp2_with (first | (go_at_call 37; refine C1.out.mono ?_; rintro e w' ⟨rfl, rfl⟩) | (go_at_call 38; refine C2.out.mono ?_; rintro e w' ⟨rfl, rfl⟩) | (go_at_call 39; refine C3.out.mono ?_; rintro e w' ⟨rfl, rfl⟩))
            go_roundg g'
            case measure => omega
            case rel => exact ⟨k + 1, by omega, by go_num, HE, rfl⟩
          | false =>
            rw [h1] at C1 hsp
            rw [h2] at C2 hsp
            rw [h3] at hsp
            have C3 : Hid (Calls Try.prog 39 #[.int .u8 (b.toNat : Int), .string ⟨#[46, 45]⟩] w fun e w' => e = .returned (.bool false) ∧ w = w') := Lib.hid (by rw [← h3]; exact C3.out)
            have hp : hostC b = false := by rw [hsp]; rfl
            have HE : Hid (R = false) := by have := HI.out; rw [hall, hp, Bool.false_and] at this; exact this.symm
            rw [hb] at C1 C2 C3
            clear h1 h2 h3 hsp hp hall hb
            go_wp2_with (first | (go_at_call 37; refine C1.out.mono ?_; rintro e w' ⟨rfl, rfl⟩) | (go_at_call 38; refine C2.out.mono ?_; rintro e w' ⟨rfl, rfl⟩) | (go_at_call 39; refine C3.out.mono ?_; rintro e w' ⟨rfl, rfl⟩))
            try rw [Exit.noGoto_ret]
            go_ret
            exact ⟨ret_bool (by rw [HE.out]; rfl), rfl⟩

set_option maxHeartbeats 1000000 in
theorem refPort (s : ByteArray) (w : World) (hs : s.size ≤ 1000000) :
    Calls Try.prog 31 #[.string s] w fun e w' => e = .returned (.bool (portL s.data.toList)) ∧ w = w' := by
  have HE : Hid (portL s.data.toList = (s.data.toList.all digC && (decide (1 ≤ s.size) && decide (s.size ≤ 5)))) := by
    refine Lib.hid ?_
    unfold portL onlyL
    rw [Lib.size_eq]
    generalize s.data.toList.all digC = q
    cases s.data.toList with
    | nil => simp
    | cons x l => cases q <;> simp
  obtain ⟨R, HR⟩ : ∃ R, Hid (s.data.toList.all digC = R) := ⟨_, Lib.hid rfl⟩
  rw [HE.out, HR.out]
  clear HE
  go_enter Try.func31, Try.ntmps31
  go_wp2
  go_loopg [3] s.size (fun gk s3 wr => ∃ k : Nat, k + gk = s.size ∧ s3 = .int .i64 k ∧ Hid ((s.data.toList.drop k).all digC = R) ∧ w = wr)
  case atStart => exact ⟨0, by omega, rfl, HR, rfl⟩
  case round =>
    obtain ⟨k, hkg, rfl, HI, rfl⟩ := hrel
    cases gk with
    | zero =>
      have hkz : ¬ ((k : Int) < (s.size : Int)) := by omega
      have HE : Hid (R = true) := by
        have := HI.out
        rw [drop_end s k (by omega)] at this
        exact this.symm
      obtain ⟨b1, hb1⟩ : ∃ b1, b1 = decide (1 ≤ s.size) := ⟨_, rfl⟩
      obtain ⟨b2, hb2⟩ : ∃ b2, b2 = decide (s.size ≤ 5) := ⟨_, rfl⟩
      have HX : Hid ((decide (1 ≤ s.size) && decide (s.size ≤ 5)) = (b1 && b2)) := Lib.hid (by rw [hb1, hb2])
      have d1 : decide ((1 : Int) ≤ (s.size : Int)) = b1 := by rw [hb1]; simp only [decide_eq_decide]; omega
      have d2 : decide ((s.size : Int) ≤ 5) = b2 := by rw [hb2]; simp only [decide_eq_decide]; omega
      clear hb1 hb2
      cases b1 <;> cases b2
      all_goals
        go_wp2
        go_ret
        exact ⟨ret_bool (by rw [HE.out, HX.out]; rfl), rfl⟩
    | succ g' =>
      have hlt : k < s.size := by omega
      have hall := all_drop (p := digC) s k hlt
      have C := Lib.hid (refDigit (s[k]'hlt) w)
      cases hp : digC (s[k]'hlt) with
      | true =>
        rw [hp] at C
        have HE : Hid ((s.data.toList.drop (k + 1)).all digC = R) := by have := HI.out; rw [hall, hp, Bool.true_and] at this; exact this
        clear hp hall
        go_wp2_with (go_at_call 38; refine C.out.mono ?_; rintro e w' ⟨rfl, rfl⟩)
        go_roundg g'
        case measure => omega
        case rel => exact ⟨k + 1, by omega, by go_num, HE, rfl⟩
      | false =>
        rw [hp] at C
        have HE : Hid (R = false) := by have := HI.out; rw [hall, hp, Bool.false_and] at this; exact this.symm
        clear hp hall
        go_wp2_with (go_at_call 38; refine C.out.mono ?_; rintro e w' ⟨rfl, rfl⟩)
        try rw [Exit.noGoto_ret]
        go_ret
        exact ⟨ret_bool (by rw [HE.out]; rfl), rfl⟩

/-- The parts ahead of a colon and behind it, as slices of the string. -/
theorem parts_at (s : ByteArray) (h : hasC s.data.toList = true) : ∃ i : Nat, colI s.data.toList = i ∧ i + 1 + (post s.data.toList).length = s.size ∧ i = (pre s.data.toList).length ∧ s.extract 0 i = str (pre s.data.toList) ∧ s.extract (i + 1) s.size = str (post s.data.toList) := by
  obtain ⟨p1, p2, p3⟩ := take_pre h
  refine ⟨(pre s.data.toList).length, by simp [colI, h], by rw [Lib.size_eq]; exact p3, rfl, ?_, ?_⟩
  · rw [Lib.extract_eq, List.drop_zero, Nat.sub_zero, p1]; rfl
  · rw [Lib.extract_eq, p2, List.take_of_length_le (by rw [Lib.size_eq]; omega)]; rfl

set_option maxHeartbeats 1000000 in
theorem refServer (s : ByteArray) (w : World) (hs : s.size ≤ 1000000) :
    Calls Try.prog 14 #[.string s] w fun e w' => e = .returned (.bool (srvL s.data.toList)) ∧ w = w' := by
  have hsz := Lib.size_eq s
  have CI := Lib.hid (refColon s w hs)
  by_cases h : s.size ≤ 128
  · have h5 : decide ((128 : Int) < (s.size : Int)) = false := by simp; omega
    have HE : Hid (srvL s.data.toList = if hasC s.data.toList then hostL (pre s.data.toList) && portL (post s.data.toList) else hostL s.data.toList) := Lib.hid (by unfold srvL; rw [decide_eq_true (by omega), Bool.true_and])
    rw [HE.out]
    clear HE hsz
    cases hh : hasC s.data.toList with
    | false =>
      have CH := Lib.hid (refHost s w hs)
      rw [show colI s.data.toList = -1 by simp [colI, hh]] at CI
      rw [if_neg (by decide)]
      generalize hostL s.data.toList = q at CH ⊢
      go_enter Try.func14, Try.ntmps14
      go_wp2_with (first | (go_at_call 29; refine CI.out.mono ?_; rintro e w' ⟨rfl, rfl⟩) | (go_at_call 30; refine CH.out.mono ?_; rintro e w' ⟨rfl, rfl⟩))
      go_ret
      exact ⟨rfl, rfl⟩
    | true =>
      obtain ⟨i, hi, hlen, -, e1, e2⟩ := parts_at s hh
      rw [hi] at CI
      have CH := refHost (str (pre s.data.toList)) w (by rw [str_size]; have := pre_le s.data.toList; have := Lib.size_eq s; omega)
      have CP := refPort (str (post s.data.toList)) w (by rw [str_size]; omega)
      rw [str_data, ← e1] at CH
      rw [str_data, ← e2] at CP
      rw [if_pos rfl]
      have k0 : decide ((i : Int) < 0) = false := decide_eq_false (by omega)
      have k1 : (0 : Int) ≤ (i : Int) := by omega
      have k2 : (i : Int) ≤ (s.size : Int) := by omega
      have k3 : (0 : Int) ≤ (i : Int) + 1 := by omega
      have k4 : (i : Int) + 1 ≤ (s.size : Int) := by omega
      generalize hostL (pre s.data.toList) = q at CH ⊢
      generalize portL (post s.data.toList) = r at CP ⊢
      replace CH := Lib.hid CH
      replace CP := Lib.hid CP
      clear e1 e2 hlen hi h hh
      cases q
      all_goals
        go_enter Try.func14, Try.ntmps14
        go_wp2_with (first | (go_at_call 29; refine CI.out.mono ?_; rintro e w' ⟨rfl, rfl⟩) | (go_at_call 30; refine CH.out.mono ?_; rintro e w' ⟨rfl, rfl⟩) | (go_at_call 31; refine CP.out.mono ?_; rintro e w' ⟨rfl, rfl⟩))
        go_ret
        exact ⟨rfl, rfl⟩
  · have h5 : decide ((128 : Int) < (s.size : Int)) = true := by simp; omega
    have HE : Hid (srvL s.data.toList = false) := Lib.hid (by unfold srvL; rw [decide_eq_false (by omega), Bool.false_and])
    rw [HE.out]
    clear hsz HE CI h
    go_enter Try.func14, Try.ntmps14
    go_wp2
    go_ret
    exact ⟨rfl, rfl⟩

set_option maxHeartbeats 4000000 in
theorem refEvent (s : ByteArray) (w : World) (hs : s.size ≤ 1000000) :
    Calls Try.prog 20 #[.string s] w fun e w' => e = .returned (.bool (evL s.data.toList)) ∧ w = w' := by
  have hsz := Lib.size_eq s
  by_cases h2 : s.size < 2
  · have HE : Hid (evL s.data.toList = false) := by
      refine Lib.hid ?_
      have : onlyL evC (s.data.toList.drop 1) = false := by
        have : s.data.toList.drop 1 = [] := List.drop_eq_nil_of_le (by omega)
        rw [this]; rfl
      unfold evL
      rw [this, Bool.and_false, Bool.and_false]
    rw [HE.out]
    have d1 : decide ((s.size : Int) < 2) = true := by simp; omega
    clear h2 hsz
    go_enter Try.func20, Try.ntmps20
    go_wp2
    go_ret
    exact ⟨rfl, rfl⟩
  have d1 : decide ((s.size : Int) < 2) = false := by simp; omega
  by_cases h65 : 65 < s.size
  · have HE : Hid (evL s.data.toList = false) := Lib.hid (by unfold evL; rw [decide_eq_false (by omega), Bool.false_and])
    rw [HE.out]
    have d2 : decide ((65 : Int) < (s.size : Int)) = true := by simp; omega
    clear h2 h65 hsz
    go_enter Try.func20, Try.ntmps20
    go_wp2
    go_ret
    exact ⟨rfl, rfl⟩
  have d2 : decide ((65 : Int) < (s.size : Int)) = false := by simp; omega
  have hlt0 : 0 < s.size := by omega
  have hd0 := drop_at s 0 hlt0
  rw [List.drop_zero] at hd0
  have hpos : (0 : Int) < (s.size : Int) := by omega
  by_cases h36 : s[0] = 36
  · have e36 : ((s[0]'hlt0).toNat : Int) = 36 := by rw [h36]; rfl
    have HE : Hid (evL s.data.toList = (s.data.toList.drop 1).all evC) := by
      refine Lib.hid ?_
      have hpr : [36].isPrefixOf s.data.toList = true := by rw [hd0, h36]; simp [List.isPrefixOf]
      have hne : (s.data.toList.drop 1).isEmpty = false := by
        cases hc : s.data.toList.drop 1 with
        | nil => have := congrArg List.length hc; simp at this; omega
        | cons x l => rfl
      unfold evL onlyL
      rw [decide_eq_true (by omega), hpr, hne]
      simp
    rw [HE.out]
    obtain ⟨R, HR⟩ : ∃ R, Hid ((s.data.toList.drop 1).all evC = R) := ⟨_, Lib.hid rfl⟩
    rw [HR.out]
    clear HE h36 hd0 h65 hsz
    go_enter Try.func20, Try.ntmps20
    go_wp2
    go_loopg [3] s.size (fun gk s3 wr => ∃ k : Nat, k + gk = s.size + 1 ∧ 1 ≤ k ∧ s3 = .int .i64 k ∧ Hid ((s.data.toList.drop k).all evC = R) ∧ w = wr)
    case atStart => exact ⟨1, by omega, by omega, rfl, HR, rfl⟩
    case round =>
      obtain ⟨k, hkg, hk1, rfl, HI, rfl⟩ := hrel
      by_cases hlt : k < s.size
      · obtain ⟨g', rfl⟩ : ∃ g', gk = g' + 1 := ⟨gk - 1, by omega⟩
        have hall := all_drop (p := evC) s k hlt
        obtain ⟨b, hb⟩ : ∃ b : UInt8, b = s[k]'hlt := ⟨_, rfl⟩
        rw [← hb] at hall
        have hsp := ev_spec b
        have C1 := Lib.hid (refLetter b w)
        have C2 := Lib.hid (refDigit b w)
        have C3 := Lib.hid (refAmong b ⟨#[95, 45, 46, 126, 47]⟩ w (by decide))
        cases h1 : (lowC b || capC b) with
        | true =>
          rw [h1] at C1 hsp
          have hp : evC b = true := by rw [hsp]; rfl
          have HE : Hid ((s.data.toList.drop (k + 1)).all evC = R) := by have := HI.out; rw [hall, hp, Bool.true_and] at this; exact this
          rw [hb] at C1
          clear h1 hsp hp hall hb
          go_wp2_with (go_at_call 37; refine C1.out.mono ?_; rintro e w' ⟨rfl, rfl⟩)
          go_roundg g'
          case measure => omega
          case rel => exact ⟨k + 1, by omega, by omega, by go_num, HE, rfl⟩
        | false =>
          cases h2 : digC b with
          | true =>
            rw [h1] at C1 hsp
            rw [h2] at C2 hsp
            have hp : evC b = true := by rw [hsp]; rfl
            have HE : Hid ((s.data.toList.drop (k + 1)).all evC = R) := by have := HI.out; rw [hall, hp, Bool.true_and] at this; exact this
            rw [hb] at C1 C2
            clear h1 h2 hsp hp hall hb
            go_wp2_with (first | (go_at_call 37; refine C1.out.mono ?_; rintro e w' ⟨rfl, rfl⟩) | (go_at_call 38; refine C2.out.mono ?_; rintro e w' ⟨rfl, rfl⟩))
            go_roundg g'
            case measure => omega
            case rel => exact ⟨k + 1, by omega, by omega, by go_num, HE, rfl⟩
          | false =>
            cases h3 : ([95, 45, 46, 126, 47] : List UInt8).contains b with
            | true =>
              rw [h1] at C1 hsp
              rw [h2] at C2 hsp
              rw [h3] at hsp
              have C3 : Hid (Calls Try.prog 39 #[.int .u8 (b.toNat : Int), .string ⟨#[95, 45, 46, 126, 47]⟩] w fun e w' => e = .returned (.bool true) ∧ w = w') := Lib.hid (by rw [← h3]; exact C3.out)
              have hp : evC b = true := by rw [hsp]; rfl
              have HE : Hid ((s.data.toList.drop (k + 1)).all evC = R) := by have := HI.out; rw [hall, hp, Bool.true_and] at this; exact this
              rw [hb] at C1 C2 C3
              clear h1 h2 h3 hsp hp hall hb
              go_wp2_with (first | (go_at_call 37; refine C1.out.mono ?_; rintro e w' ⟨rfl, rfl⟩) | (go_at_call 38; refine C2.out.mono ?_; rintro e w' ⟨rfl, rfl⟩) | (go_at_call 39; refine C3.out.mono ?_; rintro e w' ⟨rfl, rfl⟩))
              go_roundg g'
              case measure => omega
              case rel => exact ⟨k + 1, by omega, by omega, by go_num, HE, rfl⟩
            | false =>
              rw [h1] at C1 hsp
              rw [h2] at C2 hsp
              rw [h3] at hsp
              have C3 : Hid (Calls Try.prog 39 #[.int .u8 (b.toNat : Int), .string ⟨#[95, 45, 46, 126, 47]⟩] w fun e w' => e = .returned (.bool false) ∧ w = w') := Lib.hid (by rw [← h3]; exact C3.out)
              have hp : evC b = false := by rw [hsp]; rfl
              have HE : Hid (R = false) := by have := HI.out; rw [hall, hp, Bool.false_and] at this; exact this.symm
              rw [hb] at C1 C2 C3
              clear h1 h2 h3 hsp hp hall hb
              go_wp2_with (first | (go_at_call 37; refine C1.out.mono ?_; rintro e w' ⟨rfl, rfl⟩) | (go_at_call 38; refine C2.out.mono ?_; rintro e w' ⟨rfl, rfl⟩) | (go_at_call 39; refine C3.out.mono ?_; rintro e w' ⟨rfl, rfl⟩))
              try rw [Exit.noGoto_ret]
              go_ret
              exact ⟨ret_bool HE.out.symm, rfl⟩
      · have hkz : ¬ ((k : Int) < (s.size : Int)) := by omega
        have HE : Hid (R = true) := by
          have := HI.out
          rw [drop_end s k (by omega)] at this
          exact this.symm
        clear hlt
        go_wp2
        go_ret
        exact ⟨ret_bool (by rw [HE.out]), rfl⟩
  · have e36 : (((s[0]'hlt0).toNat : Int) == 36) = false := by
      simp only [beq_eq_false_iff_ne, ne_eq]
      intro h
      exact h36 (UInt8.toNat_inj.1 (by show _ = 36; omega))
    have HE : Hid (evL s.data.toList = false) := by
      refine Lib.hid ?_
      have hpr : [36].isPrefixOf s.data.toList = false := by
        rw [hd0]
        simp [List.isPrefixOf]
        exact fun e => h36 e.symm
      unfold evL
      rw [hpr, Bool.false_and, Bool.and_false]
    rw [HE.out]
    clear HE h36 hd0 h65 hsz
    go_enter Try.func20, Try.ntmps20
    go_wp2
    go_ret
    exact ⟨rfl, rfl⟩
end Go.Proofs.Ytemomaeecelofaa
