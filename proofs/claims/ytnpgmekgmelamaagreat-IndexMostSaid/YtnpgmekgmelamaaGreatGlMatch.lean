/-
  What is proved: glob.Match returns whether the glob matches (GlMath's mt), at any two strings of at most 1,000,000 bytes, with and without folding. What lay in memory before stands as it stood.
-/
import Derived.Test.YtnpgmekgmelamaaGreatGlCode
namespace Go.Proofs.YtnpgmekgmelamaaGreat
open Go.RowKit

def starV : Option (Nat × Nat) → Int
  | none => -1
  | some (st, _) => st
def endN : Option (Nat × Nat) → Nat
  | none => 0
  | some (_, en) => en

theorem ext_size (s : ByteArray) (i : Nat) : (s.extract i s.size).size ≤ s.size := by
  rw [Lib.size_eq, Lib.extract_eq, List.length_take, List.length_drop, ← Lib.size_eq]; omega
theorem nat_eq0 (n : Nat) : decide (n = 0) = ((n : Int) == 0) := by cases n <;> rfl
theorem below_drewN' {B : Nat} {w w' : World} (h : Below B w w') (n : Nat) : Below B w (w'.drewN n) := below_drewN h n

/-- Draws alone. -/
def Drew (w w' : World) : Prop := ∃ q, w' = w.drewN q
theorem Drew.refl (w : World) : Drew w w := ⟨0, rfl⟩
theorem Drew.on {w w' : World} (h : Drew w w') (n : Nat) : Drew w (w'.drewN n) := by
  obtain ⟨q, rfl⟩ := h
  exact ⟨q + n, World.drewN_drewN _ _ _⟩
theorem Drew.below {w w' : World} (h : Drew w w') : Below w.heap.size w w' := by
  obtain ⟨q, rfl⟩ := h
  exact below_drewN (Below.refl _ _) q

set_option maxHeartbeats 4000000 in
theorem match_core (p t : ByteArray) (f : Bool) (g : Nat) (w : World) (hp : p.size ≤ 1000000) (ht : t.size ≤ 1000000)
    (ce : ∀ w, Calls Tryz.prog 64 #[.bool f] w fun e w' => e = .returned (.func (.func g) #[] #[]) ∧ w' = w)
    (eg : ∀ args w, (callFunc g args).run Tryz.prog w = .ok (.enter g args) w) (hg : Same g f) :
    Calls Tryz.prog 24 #[.string p, .string t, .bool f] w fun e w' => e = .returned (.bool (mt f p.data.toList t.data.toList)) ∧ Drew w w' := by
  have CE := Lib.hid ce
  have HG := Lib.hid hg
  have HP := Lib.hid (Lib.size_eq p)
  have HT := Lib.hid (Lib.size_eq t)
  clear ce hg
  obtain ⟨R, HR⟩ : ∃ R, Hid (mt f p.data.toList t.data.toList = R) := ⟨_, Lib.hid rfl⟩
  rw [HR.out]
  go_enter Tryz.func24, Tryz.ntmps24
  go_wp2
  go_step3
  go_wp2_with (go_at_call 64; refine (CE.out _).mono ?_; rintro e w' ⟨rfl, rfl⟩)
  go_step3
  go_wp2
  go_loopg [8, 9, 10, 11] t.size (fun gk s8 s9 s10 s11 wr => ∃ (i j : Nat) (o : Option (Nat × Nat)), s8 = .int .i64 (starV o) ∧ s9 = .int .i64 (endN o) ∧ s10 = .int .i64 i ∧ s11 = .int .i64 j ∧ endN o + gk = t.size ∧ endN o ≤ j ∧ i ≤ p.size ∧ j ≤ t.size ∧ Hid (Inv f p.data.toList t.data.toList i j o) ∧ Hid (Drew w' wr))
  case atStart => exact ⟨0, 0, none, rfl, rfl, rfl, rfl, by simp [endN], Nat.le_refl _, Nat.zero_le _, Nat.zero_le _, Lib.hid (inv0 _ _ _), Lib.hid (Drew.refl _)⟩
  case round =>
    obtain ⟨i0, j0, o0, rfl, rfl, rfl, rfl, hen0, hej0, hi0, hj0, HI0, HB0⟩ := hrel
    obtain ⟨g0, hg0⟩ : ∃ g0, g0 = gk := ⟨gk, rfl⟩
    subst hg0
    go_wp2
    go_loopg [8, 9, 10, 11] (t.size - j0) (fun gj s8 s9 s10 s11 wr2 => ∃ (i j : Nat) (o : Option (Nat × Nat)), s8 = .int .i64 (starV o) ∧ s9 = .int .i64 (endN o) ∧ s10 = .int .i64 i ∧ s11 = .int .i64 j ∧ j + gj = t.size ∧ endN o0 ≤ endN o ∧ endN o ≤ j ∧ i ≤ p.size ∧ Hid (Inv f p.data.toList t.data.toList i j o) ∧ Hid (Drew w' wr2))
    case atStart => exact ⟨i0, j0, o0, rfl, rfl, rfl, rfl, by omega, Nat.le_refl _, hej0, hi0, HI0, HB0⟩
    case round =>
      obtain ⟨i1, j, o1, rfl, rfl, rfl, rfl, hjg, hen1, hej1, hi1, HI1, HB1⟩ := hrel
      clear HI0 HB0 hi0 hj0 hej0
      cases gk with
      | zero =>
        have hjz : ¬ ((j : Int) < (t.size : Int)) := by omega
        have CL := Lib.hid fun w2 => least_any (p.extract i1 p.size) w2 (by have := ext_size p i1; omega)
        have HE : Hid (R = (((least (List.take (p.size - i1) (List.drop i1 p.data.toList)) : Nat) : Int) == 0)) := by
          refine Lib.hid ?_
          have := inv_end HI1.out (by rw [← HT.out]; omega)
          rw [← HR.out, this]
          rw [List.take_of_length_le (by rw [List.length_drop, ← HP.out]; omega)]
          exact nat_eq0 _
        have c1 : (0 : Int) ≤ ↑i1 := by omega
        have c2 : (↑i1 : Int) ≤ ↑p.size := by omega
        go_wp2_with (go_at_call 65; refine (CL.out _).mono ?_; rintro e w3 ⟨rfl, rfl⟩)
        try rw [Exit.noGoto_ret]
        go_ret
        exact ⟨ret_bool HE.out.symm, HB1.out⟩
      | succ gj =>
        have hjz : (j : Int) < (t.size : Int) := by omega
        have hjn : j < t.size := by omega
        go_wp2
        go_loopg [8, 9, 10] (p.size - i1) (fun gi s8 s9 s10 wr3 => ∃ (i : Nat) (o : Option (Nat × Nat)), s8 = .int .i64 (starV o) ∧ s9 = .int .i64 (endN o) ∧ s10 = .int .i64 i ∧ i + gi = p.size ∧ endN o1 ≤ endN o ∧ endN o ≤ j ∧ Hid (Inv f p.data.toList t.data.toList i j o) ∧ Hid (Drew w' wr3))
        case atStart => exact ⟨i1, o1, rfl, rfl, rfl, by omega, Nat.le_refl _, hej1, HI1, HB1⟩
        case round =>
          obtain ⟨i, o, rfl, rfl, rfl, hig, hen2, hej2, HI, HB⟩ := hrel
          clear HI1 HB1 hi1
          have HTj : Hid (t.data.toList.drop j = t[j]'hjn :: t.data.toList.drop (j + 1)) := Lib.hid (drop_at t j hjn)
          -- what follows a byte that does not stand for the text's
          cases gk with
          | zero =>
            have hin : i = p.size := by omega
            have hiz : ¬ ((i : Int) < (p.size : Int)) := by omega
            have hid : decide ((i : Int) < (p.size : Int)) = false := decide_eq_false hiz
            have HD : Hid (mt f (p.data.toList.drop i) (t.data.toList.drop j) = false) := Lib.hid (by rw [drop_end p i (by omega), HTj.out]; rfl)
            cases o with
            | none =>
              have HE : Hid (R = false) := Lib.hid (by rw [← HR.out, show mt f p.data.toList t.data.toList = _ from HI.out]; exact HD.out)
              go_wp2
              go_quiet (fail)
              go_wp2
              try rw [Exit.noGoto_ret]
              go_ret
              exact ⟨ret_bool HE.out.symm, Drew.on HB.out _⟩
            | some x =>
              obtain ⟨st, en⟩ := x
              have HN : Hid (Inv f p.data.toList t.data.toList (st + 1) (en + 1) (some (st, en + 1))) := Lib.hid (inv_back HI.out (by rw [← HT.out]; exact hjn) HD.out)
              have hst : st + 1 ≤ p.size := by rw [HP.out]; have := HI.out.2.2.1; have := HI.out.2.2.2.1; omega
              replace hen2 : endN o1 ≤ en := hen2
              replace hej2 : en ≤ j := hej2
              simp only [endN, starV]
              have hs0 : decide ((st : Int) < 0) = false := by simp
              go_wp2
              go_quiet (fail)
              go_wp2
              go_roundg (t.size - (en + 1))
              case measure => omega
              case rel => exact ⟨st + 1, en + 1, some (st, en + 1), rfl, iv (by simp [endN]), iv (by omega), iv (by omega), by show en + 1 + (t.size - (en + 1)) = t.size; omega, by simp [endN], hst, by omega, HN, Lib.hid (Drew.on HB.out _)⟩
          | succ gi =>
            have hin : i < p.size := by omega
            have hiz : (i : Int) < (p.size : Int) := by omega
            have HPi : Hid (p.data.toList.drop i = p[i]'hin :: p.data.toList.drop (i + 1)) := Lib.hid (drop_at p i hin)
            by_cases h42 : p[i]'hin = 42
            · have e42 : ((p[i]'hin).toNat : Int) = 42 := by rw [h42]; rfl
              have HN : Hid (Inv f p.data.toList t.data.toList (i + 1) j (some (i, j))) := Lib.hid (inv_star HI.out (by rw [← HT.out]; omega) (by rw [← HP.out]; exact hin) (by rw [HPi.out, h42]))
              clear h42
              go_wp2
              go_roundg gi
              case measure => omega
              case rel => exact ⟨i + 1, some (i, j), rfl, rfl, iv (by omega), by omega, by show endN o1 ≤ j; omega, Nat.le_refl _, HN, HB⟩
            · have e42 : (((p[i]'hin).toNat : Int) == 42) = false := by
                rw [show (42 : Int) = ((42 : UInt8).toNat : Int) from rfl, byte_beq]; simpa using h42
              have hjL : j < t.data.toList.length := by rw [← HT.out]; exact hjn
              have hiL : i < p.data.toList.length := by rw [← HP.out]; exact hin
              by_cases h63 : p[i]'hin = 63
              · have e63 : ((p[i]'hin).toNat : Int) = 63 := by rw [h63]; rfl
                have HN : Hid (Inv f p.data.toList t.data.toList (i + 1) (j + 1) o) := Lib.hid (inv_step HI.out HPi.out hiL HTj.out hjL h42 (by rw [h63]; simp [oneC]))
                have e42' : (((63 : Int)) == 42) = false := rfl
                clear h42 h63 hjL hiL
                go_wp2
                go_quiet (fail)
                go_wp2
                go_roundg gj
                case measure => omega
                case rel => exact ⟨i + 1, j + 1, o, rfl, rfl, iv (by omega), iv (by omega), by omega, by omega, by omega, by omega, HN, Lib.hid (Drew.on HB.out _)⟩
              · have e63 : (((p[i]'hin).toNat : Int) == 63) = false := by
                  rw [show (63 : Int) = ((63 : UInt8).toNat : Int) from rfl, byte_beq]; simpa using h63
                have C := Lib.hid fun w => HG.out w (p[i]'hin) (t[j]'hjn)
                have ho : oneC f (p[i]'hin) (t[j]'hjn) = eqC f (p[i]'hin) (t[j]'hjn) := by
                  have : (p[i]'hin == 63) = false := by simpa using h63
                  rw [oneC, this, Bool.false_or]
                cases hc : eqC f (p[i]'hin) (t[j]'hjn) with
                | true =>
                  rw [hc] at C ho
                  have HN : Hid (Inv f p.data.toList t.data.toList (i + 1) (j + 1) o) := Lib.hid (inv_step HI.out HPi.out hiL HTj.out hjL h42 ho)
                  clear h42 h63 hjL hiL ho hc
                  go_wp2
                  go_quiet (first | (go_at_fn g; refine Calls.quiet_of_same (C.out _)))
                  go_wp2
                  go_roundg gj
                  case measure => omega
                  case rel => exact ⟨i + 1, j + 1, o, rfl, rfl, iv (by omega), iv (by omega), by omega, by omega, by omega, by omega, HN, Lib.hid (Drew.on HB.out _)⟩
                | false =>
                  rw [hc] at C ho
                  have HD : Hid (mt f (p.data.toList.drop i) (t.data.toList.drop j) = false) := Lib.hid (by rw [HPi.out, HTj.out]; exact dead_one h42 ho)
                  clear h42 h63 hiL ho hc
                  cases o with
                  | none =>
                    have HE : Hid (R = false) := Lib.hid (by rw [← HR.out, show mt f p.data.toList t.data.toList = _ from HI.out]; exact HD.out)
                    clear hjL
                    go_wp2
                    go_quiet (first | (go_at_fn g; refine Calls.quiet_of_same (C.out _)))
                    go_wp2
                    try rw [Exit.noGoto_ret]
                    go_ret
                    exact ⟨ret_bool HE.out.symm, Drew.on HB.out _⟩
                  | some x =>
                    obtain ⟨st, en⟩ := x
                    have HN : Hid (Inv f p.data.toList t.data.toList (st + 1) (en + 1) (some (st, en + 1))) := Lib.hid (inv_back HI.out hjL HD.out)
                    have hst : st + 1 ≤ p.size := by rw [HP.out]; have := HI.out.2.2.1; have := HI.out.2.2.2.1; omega
                    replace hen2 : endN o1 ≤ en := hen2
                    replace hej2 : en ≤ j := hej2
                    simp only [endN, starV]
                    have hs0 : decide ((st : Int) < 0) = false := by simp
                    clear hjL
                    go_wp2
                    go_quiet (first | (go_at_fn g; refine Calls.quiet_of_same (C.out _)))
                    go_wp2
                    go_roundg (t.size - (en + 1))
                    case measure => omega
                    case rel => exact ⟨st + 1, en + 1, some (st, en + 1), rfl, iv (by simp [endN]), iv (by omega), iv (by omega), by show en + 1 + (t.size - (en + 1)) = t.size; omega, by simp [endN], hst, by omega, HN, Lib.hid (Drew.on HB.out _)⟩
end Go.Proofs.YtnpgmekgmelamaaGreat
