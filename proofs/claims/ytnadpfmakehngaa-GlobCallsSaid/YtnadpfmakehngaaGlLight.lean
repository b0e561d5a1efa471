/-
  What is proved: what outlawkit.LightTexts and outlawlaw07.light return of a slice of strings: whether each has at most 300 bytes, and there are at most four. The world stands as it stood.
-/
import Derived.Test.YtnadpfmakehngaaGlLaw
namespace Go.Proofs.Ytnadpfmakehngaa
open Go.RowKit

def lightB (ss : List ByteArray) : Bool := ss.all (fun s => decide (s.size ≤ 300))

set_option maxHeartbeats 1000000 in
theorem texts_any (ss : List ByteArray) (b cap : Nat) (w : World) (hn : ss.length ≤ 4)
    (hc : ∀ j (h : j < ss.length), w.cell? ⟨b, j, none⟩ = some (.string ss[j])) :
    Calls Try.prog 30 #[.slice (some ⟨b, 0, none⟩) ss.length cap, .int .i64 4, .int .i64 300] w fun e w' => e = .returned (.bool (lightB ss)) ∧ w' = w := by
  have HC := Lib.hid hc
  clear hc
  obtain ⟨R, HR⟩ : ∃ R, Hid (lightB ss = R) := ⟨_, Lib.hid rfl⟩
  rw [HR.out]
  obtain ⟨n, hnn⟩ : ∃ n, ss.length = n := ⟨_, rfl⟩
  rw [hnn] at hn ⊢
  have HN := Lib.hid hnn
  clear hnn
  go_enter Try.func30, Try.ntmps30
  go_wp2
  go_loopg [7] n (fun gk s7 wr => ∃ k : Nat, k + gk = n ∧ s7 = .int .i64 k ∧ Hid (lightB (ss.drop k) = R) ∧ wr = w)
  case atStart => exact ⟨0, by omega, rfl, HR, rfl⟩
  case round =>
    obtain ⟨k, hkg, rfl, HI, rfl⟩ := hrel
    cases gk with
    | zero =>
      have hkz : ¬ ((k : Int) < (n : Int)) := by omega
      have h4 : (n : Int) ≤ 4 := by omega
      have HE : Hid (R = true) := by
        have := HI.out
        rw [List.drop_eq_nil_of_le (by rw [HN.out]; omega)] at this
        exact this.symm
      go_wp2
      go_ret
      exact ⟨ret_bool HE.out.symm, rfl⟩
    | succ g' =>
      have hlt : k < ss.length := by rw [HN.out]; omega
      have hkz : (k : Int) < (n : Int) := by omega
      have hcell := HC.out k hlt
      have hd : ss.drop k = ss[k] :: ss.drop (k + 1) := List.drop_eq_getElem_cons hlt
      obtain ⟨s, hs⟩ : ∃ s, ss[k] = s := ⟨_, rfl⟩
      rw [hs] at hcell hd
      have HD : Hid (lightB (ss.drop k) = (decide (s.size ≤ 300) && lightB (ss.drop (k + 1)))) := Lib.hid (by rw [hd]; rfl)
      clear hd hs hlt
      by_cases h : s.size ≤ 300
      · have h3 : decide ((300 : Int) < (s.size : Int)) = false := by simp; omega
        have HE : Hid (lightB (ss.drop (k + 1)) = R) := by
          have := HD.out
          rw [HI.out, decide_eq_true h, Bool.true_and] at this
          exact this.symm
        go_wp2
        go_roundg g'
        case measure => omega
        case rel => exact ⟨k + 1, by omega, by go_num, HE, rfl⟩
      · have h3 : decide ((300 : Int) < (s.size : Int)) = true := by simp; omega
        have HE : Hid (R = false) := by
          have := HD.out
          rw [HI.out, decide_eq_false h, Bool.false_and] at this
          exact this
        go_wp2
        try rw [Exit.noGoto_ret]
        go_ret
        exact ⟨ret_bool HE.out.symm, rfl⟩

theorem light_of (ss : List ByteArray) (b cap : Nat) (w : World) (hn : ss.length ≤ 4)
    (hc : ∀ j (h : j < ss.length), w.cell? ⟨b, j, none⟩ = some (.string ss[j])) :
    Calls Try.prog 15 #[.slice (some ⟨b, 0, none⟩) ss.length cap] w fun e w' => e = .returned (.bool (lightB ss)) ∧ w' = w := by
  have C := Lib.hid (texts_any ss b cap w hn hc)
  clear hc
  obtain ⟨n, hnn⟩ : ∃ n, ss.length = n := ⟨_, rfl⟩
  rw [hnn] at C ⊢
  clear hnn hn
  go_enter Try.func15, Try.ntmps15
  go_wp2_with (go_at_call 30; refine C.out.mono ?_; rintro e w' ⟨rfl, rfl⟩)
  go_ret
  exact ⟨rfl, rfl⟩

theorem light2 (p q : ByteArray) (w : World) :
    Calls Try.prog 15 #[.slice (some ⟨w.heap.size, 0, none⟩) 2 2] (w.alloc (Obj.cells #[.string p, .string q] 9)) fun e w' => e = .returned (.bool (lightB [p, q])) ∧ Below w.heap.size w w' := by
  refine (light_of [p, q] w.heap.size 2 _ (by simp) ?_).mono ?_
  · intro j hj
    match j, hj with
    | 0, _ => simp
    | 1, _ => simp
  · rintro e w' ⟨rfl, rfl⟩
    exact ⟨rfl, (Below.refl _ w).alloc (Nat.le_refl _) _⟩

theorem light4 (p q s t : ByteArray) (w : World) :
    Calls Try.prog 15 #[.slice (some ⟨w.heap.size, 0, none⟩) 4 4] (w.alloc (Obj.cells #[.string p, .string q, .string s, .string t] 9)) fun e w' => e = .returned (.bool (lightB [p, q, s, t])) ∧ Below w.heap.size w w' := by
  refine (light_of [p, q, s, t] w.heap.size 4 _ (by simp) ?_).mono ?_
  · intro j hj
    match j, hj with
    | 0, _ => simp
    | 1, _ => simp
    | 2, _ => simp
    | 3, _ => simp
  · rintro e w' ⟨rfl, rfl⟩
    exact ⟨rfl, (Below.refl _ w).alloc (Nat.le_refl _) _⟩

theorem light2_sizes {p q : ByteArray} (h : lightB [p, q] = true) : p.size ≤ 300 ∧ q.size ≤ 300 := by
  simpa [lightB] using h
theorem light4_sizes {p q s t : ByteArray} (h : lightB [p, q, s, t] = true) : p.size ≤ 300 ∧ q.size ≤ 300 ∧ s.size ≤ 300 ∧ t.size ≤ 300 := by
  simpa [lightB] using h
end Go.Proofs.Ytnadpfmakehngaa
