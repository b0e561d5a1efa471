/-
  What is proved: what the document's own answers (package outlawref04) return: named, User, Room, Kind, Lower, ServerOf: the same functions on lists of bytes (IdMath) that package ident's contracts are told by. Conditions: strings of at most 1,000,000 bytes.
-/
import Derived.Test.YtemomaeecelofaaIdRefB
namespace Go.Proofs.Ytemomaeecelofaa
open Go.RowKit

theorem pre_at (s : ByteArray) (k : Nat) (hk : k < (pre s.data.toList).length) (hks : k < s.size) : (pre s.data.toList).drop k = s[k] :: (pre s.data.toList).drop (k + 1) := by
  rw [List.drop_eq_getElem_cons hk]
  congr 1
  exact (List.takeWhile_prefix (l := s.data.toList) (fun c => c != 58)).getElem hk

set_option maxHeartbeats 4000000 in
/-- The loop of named: all bytes of the name are told by p. -/
theorem named_loop (s m : ByteArray) (sg : UInt8) (sm : Bool) (p : UInt8 → Bool) (w : World) (hs : s.size ≤ 255) (hm : m.size ≤ 1000000)
    (hp : ∀ b, p b = (((lowC b || capC b) || (digC b || m.data.toList.contains b)) && !(capC b && sm)))
    (i : Nat) (hi2 : 2 ≤ i) (hi : i + 1 ≤ s.size) (hil : i = (pre s.data.toList).length) (hlt0 : 0 < s.size) (h0 : s[0]'hlt0 = sg)
    (ci : Calls Try.prog 29 #[.string s] w fun e w' => e = .returned (.int .i64 (i : Int)) ∧ w = w')
    (cs : Calls Try.prog 14 #[.string (s.extract (i + 1) s.size)] w fun e w' => e = .returned (.bool true) ∧ w = w') :
    Calls Try.prog 34 #[.string s, .int .u8 (sg.toNat : Int), .bool sm, .string m] w fun e w' => e = .returned (.bool (((pre s.data.toList).drop 1).all p)) ∧ w = w' := by
  have CI := Lib.hid ci
  have CS := Lib.hid cs
  clear ci cs
  have hpre : ∀ k (_ : k < i) (hks : k < s.size), (pre s.data.toList).drop k = (s[k]'hks) :: (pre s.data.toList).drop (k + 1) := fun k hk hks => pre_at s k (by omega) hks
  have hend : (pre s.data.toList).drop i = [] := List.drop_eq_nil_of_le (by omega)
  clear hil
  generalize pre s.data.toList = pl at hpre hend ⊢
  have HPRE := Lib.hid hpre
  have HEND := Lib.hid hend
  have HP := Lib.hid hp
  clear hpre hend hp
  obtain ⟨R, HR⟩ : ∃ R, Hid ((pl.drop 1).all p = R) := ⟨_, Lib.hid rfl⟩
  rw [HR.out]
  have e0 : ((s[0]'hlt0).toNat : Int) = (sg.toNat : Int) := by rw [h0]
  have g1 : decide ((255 : Int) < (s.size : Int)) = false := decide_eq_false (by omega)
  have g2 : decide ((i : Int) < 2) = false := decide_eq_false (by omega)
  have g3 : (0 : Int) < (s.size : Int) := by omega
  have k3 : (0 : Int) ≤ (i : Int) + 1 := by omega
  have k4 : (i : Int) + 1 ≤ (s.size : Int) := by omega
  clear h0
  go_enter Try.func34, Try.ntmps34
  go_wp2_with (first | (go_at_call 29; refine CI.out.mono ?_; rintro e w' ⟨rfl, rfl⟩) | (go_at_call 14; refine CS.out.mono ?_; rintro e w' ⟨rfl, rfl⟩))
  go_loopg [10] i (fun gk s10 wr => ∃ k : Nat, k + gk = i + 1 ∧ k ≤ i ∧ s10 = .int .i64 k ∧ Hid ((pl.drop k).all p = R) ∧ w = wr)
  case atStart => exact ⟨1, by omega, by omega, rfl, HR, rfl⟩
  case round =>
    obtain ⟨k, hkg, hk1, rfl, HI, rfl⟩ := hrel
    by_cases hlt : k < i
    · obtain ⟨g', rfl⟩ : ∃ g', gk = g' + 1 := ⟨gk - 1, by omega⟩
      have hlts : k < s.size := by omega
      have hk0 : (k : Int) < (i : Int) := by omega
      have hk2 : (k : Int) < (s.size : Int) := by omega
      have hall : (pl.drop k).all p = (p (s[k]'hlts) && (pl.drop (k + 1)).all p) := by rw [HPRE.out k hlt hlts, List.all_cons]
      obtain ⟨b, hb⟩ : ∃ b : UInt8, b = s[k]'hlts := ⟨_, rfl⟩
      rw [← hb] at hall
      have hsp := HP.out b
      have C1 := Lib.hid (refLetter b w)
      have C2 := Lib.hid (refDigit b w)
      have C3 := Lib.hid (refAmong b m w hm)
      have hcap : capC b = (decide (65 ≤ b.toNat) && decide (b.toNat ≤ 90)) := rfl
      have d1 : decide ((65 : Int) ≤ (b.toNat : Int)) = decide (65 ≤ b.toNat) := by simp only [decide_eq_decide]; omega
      have d2 : decide ((b.toNat : Int) ≤ 90) = decide (b.toNat ≤ 90) := by simp only [decide_eq_decide]; omega
      generalize decide (65 ≤ b.toNat) = b1 at hcap d1
      generalize decide (b.toNat ≤ 90) = b2 at hcap d2
      clear hlt
      cases hc : capC b with
      | true =>
        have hb1 : b1 = true := by cases b1 <;> simp_all
        have hb2 : b2 = true := by cases b2 <;> simp_all
        subst hb1 hb2
        have hl : (lowC b || capC b) = true := by rw [hc, Bool.or_true]
        rw [hl] at C1
        cases sm with
        | true =>
          have hp' : p b = false := by rw [hsp, hc]; simp
          have HE : Hid (R = false) := by have := HI.out; rw [hall, hp', Bool.false_and] at this; exact this.symm
          rw [hb] at C1 C2 C3 d1 d2
          clear hc hcap hl hsp hp' hall hb
          go_wp2_with (first | (go_at_call 37; refine C1.out.mono ?_; rintro e w' ⟨rfl, rfl⟩) | (go_at_call 38; refine C2.out.mono ?_; rintro e w' ⟨rfl, rfl⟩) | (go_at_call 39; refine C3.out.mono ?_; rintro e w' ⟨rfl, rfl⟩))
          try rw [Exit.noGoto_ret]
          go_ret
          exact ⟨ret_bool HE.out.symm, rfl⟩
        | false =>
          have hp' : p b = true := by rw [hsp, hl]; simp
          have HE : Hid ((pl.drop (k + 1)).all p = R) := by have := HI.out; rw [hall, hp', Bool.true_and] at this; exact this
          rw [hb] at C1 C2 C3 d1 d2
          clear hc hcap hl hsp hp' hall hb
          go_wp2_with (first | (go_at_call 37; refine C1.out.mono ?_; rintro e w' ⟨rfl, rfl⟩) | (go_at_call 38; refine C2.out.mono ?_; rintro e w' ⟨rfl, rfl⟩) | (go_at_call 39; refine C3.out.mono ?_; rintro e w' ⟨rfl, rfl⟩))
          go_roundg g'
          case measure => omega
          case rel => exact ⟨k + 1, by omega, by omega, by go_num, HE, rfl⟩
      | false =>
        rw [hc, Bool.false_and, Bool.not_false, Bool.and_true] at hsp
        rw [hc] at hcap
        have hbb : b1 = false ∨ (b1 = true ∧ b2 = false) := by
          cases b1 with
          | false => exact .inl rfl
          | true =>
            cases b2 with
            | false => exact .inr ⟨rfl, rfl⟩
            | true => cases hcap
        clear hcap
        cases h1 : (lowC b || capC b) with
        | true =>
          rw [hc] at h1
          rw [hc, h1] at C1
          rw [h1] at hsp
          have hp' : p b = true := by rw [hsp]; rfl
          have HE : Hid ((pl.drop (k + 1)).all p = R) := by have := HI.out; rw [hall, hp', Bool.true_and] at this; exact this
          rw [hb] at C1 C2 C3 d1 d2
          clear hc h1 hsp hp' hall hb
          rcases hbb with rfl | ⟨rfl, rfl⟩
          all_goals
            go_wp2_with (first | (go_at_call 37; refine C1.out.mono ?_; rintro e w' ⟨rfl, rfl⟩) | (go_at_call 38; refine C2.out.mono ?_; rintro e w' ⟨rfl, rfl⟩) | (go_at_call 39; refine C3.out.mono ?_; rintro e w' ⟨rfl, rfl⟩))
            go_roundg g'
            case measure => omega
            case rel => exact ⟨k + 1, by omega, by omega, by go_num, HE, rfl⟩
        | false =>
          rw [hc] at h1
          rw [hc, h1] at C1
          rw [h1] at hsp
          cases h2 : digC b with
          | true =>
            rw [h2] at C2 hsp
            have hp' : p b = true := by rw [hsp]; rfl
            have HE : Hid ((pl.drop (k + 1)).all p = R) := by have := HI.out; rw [hall, hp', Bool.true_and] at this; exact this
            rw [hb] at C1 C2 C3 d1 d2
            clear hc h1 h2 hsp hp' hall hb
            rcases hbb with rfl | ⟨rfl, rfl⟩
            all_goals
              go_wp2_with (first | (go_at_call 37; refine C1.out.mono ?_; rintro e w' ⟨rfl, rfl⟩) | (go_at_call 38; refine C2.out.mono ?_; rintro e w' ⟨rfl, rfl⟩) | (go_at_call 39; refine C3.out.mono ?_; rintro e w' ⟨rfl, rfl⟩))
              go_roundg g'
              case measure => omega
              case rel => exact ⟨k + 1, by omega, by omega, by go_num, HE, rfl⟩
          | false =>
            rw [h2] at C2 hsp
            cases h3 : m.data.toList.contains b with
            | true =>
              rw [h3] at C3 hsp
              have hp' : p b = true := by rw [hsp]; rfl
              have HE : Hid ((pl.drop (k + 1)).all p = R) := by have := HI.out; rw [hall, hp', Bool.true_and] at this; exact this
              rw [hb] at C1 C2 C3 d1 d2
              clear hc h1 h2 h3 hsp hp' hall hb
              rcases hbb with rfl | ⟨rfl, rfl⟩
              all_goals
                go_wp2_with (first | (go_at_call 37; refine C1.out.mono ?_; rintro e w' ⟨rfl, rfl⟩) | (go_at_call 38; refine C2.out.mono ?_; rintro e w' ⟨rfl, rfl⟩) | (go_at_call 39; refine C3.out.mono ?_; rintro e w' ⟨rfl, rfl⟩))
                go_roundg g'
                case measure => omega
                case rel => exact ⟨k + 1, by omega, by omega, by go_num, HE, rfl⟩
            | false =>
              rw [h3] at C3 hsp
              have hp' : p b = false := by rw [hsp]; rfl
              have HE : Hid (R = false) := by have := HI.out; rw [hall, hp', Bool.false_and] at this; exact this.symm
              rw [hb] at C1 C2 C3 d1 d2
              clear hc h1 h2 h3 hsp hp' hall hb
              rcases hbb with rfl | ⟨rfl, rfl⟩
              all_goals
                go_wp2_with (first | (go_at_call 37; refine C1.out.mono ?_; rintro e w' ⟨rfl, rfl⟩) | (go_at_call 38; refine C2.out.mono ?_; rintro e w' ⟨rfl, rfl⟩) | (go_at_call 39; refine C3.out.mono ?_; rintro e w' ⟨rfl, rfl⟩))
                try rw [Exit.noGoto_ret]
                go_ret
                exact ⟨ret_bool HE.out.symm, rfl⟩
    · have hk0 : ¬ ((k : Int) < (i : Int)) := by omega
      obtain rfl : k = i := by omega
      have HE : Hid (R = true) := by
        have := HI.out
        rw [HEND.out] at this
        exact this.symm
      clear hlt
      go_wp2
      go_ret
      exact ⟨ret_bool HE.out.symm, rfl⟩

set_option maxHeartbeats 2000000 in
/-- named, where it is refused ahead of the loop. -/
theorem named_no (s m : ByteArray) (sg : UInt8) (sm : Bool) (w : World) (i : Int) (h : 255 < s.size ∨ (s.size ≤ 255 ∧ i < 2) ∨ (s.size ≤ 255 ∧ ∃ n : Nat, i = n ∧ 2 ≤ n ∧ n + 1 ≤ s.size ∧ ∃ h : 0 < s.size, (¬ s[0] = sg ∨ (s[0] = sg ∧ Calls Try.prog 14 #[.string (s.extract (n + 1) s.size)] w fun e w' => e = .returned (.bool false) ∧ w = w'))))
    (ci : Calls Try.prog 29 #[.string s] w fun e w' => e = .returned (.int .i64 i) ∧ w = w') :
    Calls Try.prog 34 #[.string s, .int .u8 (sg.toNat : Int), .bool sm, .string m] w fun e w' => e = .returned (.bool false) ∧ w = w' := by
  have CI := Lib.hid ci
  clear ci
  rcases h with h | ⟨h1, h2⟩ | ⟨h1, n, rfl, hn2, hn, h0, h2 | ⟨h2, cs⟩⟩
  · have g1 : decide ((255 : Int) < (s.size : Int)) = true := decide_eq_true (by omega)
    clear h
    go_enter Try.func34, Try.ntmps34
    go_wp2_with (go_at_call 29; refine CI.out.mono ?_; rintro e w' ⟨rfl, rfl⟩)
    go_ret
    exact ⟨rfl, rfl⟩
  · have g1 : decide ((255 : Int) < (s.size : Int)) = false := decide_eq_false (by omega)
    have g2 : decide (i < 2) = true := decide_eq_true h2
    clear h1 h2
    go_enter Try.func34, Try.ntmps34
    go_wp2_with (go_at_call 29; refine CI.out.mono ?_; rintro e w' ⟨rfl, rfl⟩)
    go_ret
    exact ⟨rfl, rfl⟩
  · have g1 : decide ((255 : Int) < (s.size : Int)) = false := decide_eq_false (by omega)
    have g2 : decide ((n : Int) < 2) = false := decide_eq_false (by omega)
    have g3 : (0 : Int) < (s.size : Int) := by omega
    have e0 : (((s[0]'h0).toNat : Int) == (sg.toNat : Int)) = false := by
      simp only [beq_eq_false_iff_ne, ne_eq]
      intro h
      exact h2 (UInt8.toNat_inj.1 (by omega))
    have e1 : (((s[0]'h0).toNat : Int) != (sg.toNat : Int)) = true := by rw [bne, e0]; rfl
    have e2 : ¬ (((s[0]'h0).toNat : Int) = (sg.toNat : Int)) := by simpa using e0
    clear h2 e0
    go_enter Try.func34, Try.ntmps34
    go_wp2_with (go_at_call 29; refine CI.out.mono ?_; rintro e w' ⟨rfl, rfl⟩)
    go_ret
    exact ⟨rfl, rfl⟩
  · have CS := Lib.hid cs
    have g1 : decide ((255 : Int) < (s.size : Int)) = false := decide_eq_false (by omega)
    have g2 : decide ((n : Int) < 2) = false := decide_eq_false (by omega)
    have g3 : (0 : Int) < (s.size : Int) := by omega
    have e0 : ((s[0]'h0).toNat : Int) = (sg.toNat : Int) := by rw [h2]
    have k3 : (0 : Int) ≤ (n : Int) + 1 := by omega
    have k4 : (n : Int) + 1 ≤ (s.size : Int) := by omega
    clear h2 cs
    go_enter Try.func34, Try.ntmps34
    go_wp2_with (first | (go_at_call 29; refine CI.out.mono ?_; rintro e w' ⟨rfl, rfl⟩) | (go_at_call 14; refine CS.out.mono ?_; rintro e w' ⟨rfl, rfl⟩))
    go_ret
    exact ⟨rfl, rfl⟩
end Go.Proofs.Ytemomaeecelofaa
