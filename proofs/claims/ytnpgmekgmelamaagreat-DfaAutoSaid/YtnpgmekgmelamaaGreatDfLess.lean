/-
  What is proved: outlawlaw09.DfaLess returns true at any glob, fold and bounds: a table is the same for any bound that allows it. No conditions.
-/
import Derived.Test.YtnpgmekgmelamaaGreatDfSame
import Derived.Test.YtnpgmekgmelamaaGreatDfMakeN
import Derived.Test.YtnpgmekgmelamaaGreatDfLives
import Derived.Test.YtnpgmekgmelamaaGreatDfSrt
namespace Go.Proofs.YtnpgmekgmelamaaGreat
open Go.RowKit Go.Shelf Go.Maps


theorem texts_none (w : World) : Calls Tryz.prog 43 #[.slice none 0 0, .int .i64 20, .int .i64 200] w fun e w' => e = .returned (.bool true) ∧ w' = w := by
  go_enter Tryz.func43, Tryz.ntmps43
  go_wp2
  go_loopg [7] 0 (fun gk s7 wr => gk = 0 ∧ s7 = .int .i64 0 ∧ wr = w)
  case atStart => exact ⟨rfl, rfl, rfl⟩
  case round =>
    obtain ⟨rfl, rfl, rfl⟩ := hrel
    go_wp2
    go_ret
    exact ⟨rfl, rfl⟩
theorem light_any (p : ByteArray) (w : World) :
    Calls Tryz.prog 9 #[.string p, .slice none 0 0] w fun e w' => e = .returned (.bool (decide (p.size ≤ 60))) ∧ w' = w := by
  have C := Lib.hid (fun w => texts_none w)
  by_cases hp : p.size ≤ 60
  · have h1 : (p.size : Int) ≤ 60 := by omega
    rw [decide_eq_true hp]
    clear hp
    go_enter Tryz.func9, Tryz.ntmps9
    go_wp2_with (go_at_call 43; refine (C.out _).mono ?_; rintro e w' ⟨rfl, rfl⟩)
    go_ret
    exact ⟨rfl, rfl⟩
  · have h1 : ¬ ((p.size : Int) ≤ 60) := by omega
    rw [decide_eq_false hp]
    clear hp
    go_enter Tryz.func9, Tryz.ntmps9
    go_wp2
    go_ret
    exact ⟨rfl, rfl⟩

/-- Build, whatever comes in: a table with n states, which is the same for any bound that allows it; or none. -/
def LessB (p : ByteArray) (_ : Bool) : Prop := checkN p.size = 0
theorem build_all (p : ByteArray) (f : Bool) (most : Int) (w : World) (hp60 : p.size ≤ 60) :
    Calls Tryz.prog 11 #[.string p, .bool f, .int .i64 most] w fun e w' =>
      ((∃ n : Nat, 1 ≤ n ∧ (n : Int) ≤ most ∧ most ≤ 256 ∧ LessB p f ∧ Closed (cntL f (normP p)) (sampL (cntL f (normP p))) n ∧ ∃ cv nv av, e = .returned (.tuple #[.agg #[cv, nv, av], .bool true]) ∧ DfaR w' cv nv av (clsI (clsTo f (sampL (cntL f (normP p))) 256)) (tabRows (cntL f (normP p)) (sampL (cntL f (normP p))) n) (tabAccs (cntL f (normP p)) (sampL (cntL f (normP p))) n)) ∨
      ((∀ n : Nat, LessB p f → (n : Int) ≤ most → most ≤ 256 → ¬ Closed (cntL f (normP p)) (sampL (cntL f (normP p))) n) ∧ e = .returned (.tuple #[.agg #[.slice none 0 0, .slice none 0 0, .slice none 0 0], .bool false]))) ∧ Below w.heap.size w w' := by
  have hpos : ∀ n, Closed (cntL f (normP p)) (sampL (cntL f (normP p))) n → 1 ≤ n := fun n hc => by
    have := setsL_pos (cntL f (normP p)) (sampL (cntL f (normP p))) n
    rw [show (setsL (cntL f (normP p)) (sampL (cntL f (normP p))) n).length = n from hc] at this
    exact this
  by_cases hc : checkN p.size = 0
  · by_cases hm : 1 ≤ most ∧ most ≤ 256
    · obtain ⟨m, rfl⟩ : ∃ m : Nat, most = (m : Int) := ⟨most.toNat, by omega⟩
      have hS : SortsN ((cntL f (normP p)).filter fun c => !wildC c).length := sortsN_any (by
        have h1 := List.length_filter_le (fun c => !wildC c) (cntL f (normP p))
        have h2 : (cntL f (normP p)).length = (normP p).length := cntL_len f (normP p)
        have h3 := normP_len p
        omega)
      refine (make_any p f m w hc hS (by omega) (by omega)).mono ?_
      rintro e w1 ⟨⟨n, hn, hle, cv, nv, av, rfl, hd⟩ | ⟨hno, rfl⟩, hb⟩
      · exact ⟨.inl ⟨n, hpos n hn, by omega, hm.2, hc, hn, cv, nv, av, rfl, hd⟩, hb⟩
      · exact ⟨.inr ⟨fun n _ h2 _ => hno n (by omega), rfl⟩, hb⟩
    · refine (make_most p f most w hc (by
        rcases Classical.not_and_iff_not_or_not.1 hm with h | h
        · rw [decide_eq_false h, Bool.false_and]
        · rw [decide_eq_false h, Bool.and_false])).mono ?_
      rintro e w1 ⟨rfl, hb⟩
      exact ⟨.inr ⟨fun n _ h2 h3 hcl => by have := hpos n hcl; omega, rfl⟩, hb⟩
  · refine (make_bad p f most w hc).mono ?_
    rintro e w1 ⟨rfl, hb⟩
    exact ⟨.inr ⟨fun n h1 _ _ => absurd h1 hc, rfl⟩, hb⟩

theorem zero_dfa (W : World) : DfaR W (.slice none 0 0) (.slice none 0 0) (.slice none 0 0) [] [] [] :=
  ⟨.inl ⟨rfl, rfl⟩, ⟨none, 0, rfl, fun j hj => absurd hj (Nat.not_lt_zero j)⟩, ⟨none, 0, rfl, fun j hj => absurd hj (Nat.not_lt_zero j)⟩⟩
theorem zero_light : LightD [] [] [] := ⟨by decide, by decide, by decide, fun j hj => absurd hj (Nat.not_lt_zero j)⟩

end Go.Proofs.YtnpgmekgmelamaaGreat
