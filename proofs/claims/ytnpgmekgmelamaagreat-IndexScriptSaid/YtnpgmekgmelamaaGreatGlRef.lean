/-
  What is proved: what the document's own answers (package outlawref07) return: Wild, Check, Literal, Least, Fold, Norm: the same functions on lists of bytes (GlMath) that package glob's contracts are told by. Conditions: strings of at most 1,000,000 bytes.
-/
import Derived.Test.YtnpgmekgmelamaaGreatGlCode
import Derived.Laws.IdiomStrings
import Derived.Laws.BytesArg
import Derived.Lib.FrozenHead
namespace Go.Proofs.YtnpgmekgmelamaaGreat
open Go.RowKit

def wildR (c : UInt8) : Bool := c == 42 || c == 63

theorem beq_42 (c : UInt8) : ((c.toNat : Int) == 42) = (c == 42) := byte_beq c 42
theorem beq_63 (c : UInt8) : ((c.toNat : Int) == 63) = (c == 63) := byte_beq c 63

theorem refWild (c : UInt8) (w : World) :
    Calls Tryz.prog 88 #[.int .u8 (c.toNat : Int)] w fun e w' => e = .returned (.bool (wildR c)) ∧ w' = w := by
  have HV : Hid (wildR c = (((c.toNat : Int) == 42) || ((c.toNat : Int) == 63))) := Lib.hid (by rw [beq_42, beq_63]; rfl)
  rw [HV.out]
  cases h1 : ((c.toNat : Int) == 42)
  all_goals
    go_enter Tryz.func88, Tryz.ntmps88
    go_wp2
    go_ret
    exact ⟨rfl, rfl⟩

theorem refCheck (s : ByteArray) (w : World) :
    Calls Tryz.prog 66 #[.string s] w fun e w' => e = .returned (.int .i64 (checkN s.size)) ∧ w' = w := by
  by_cases h0 : s.size = 0
  · have := size0 h0
    subst this
    go_enter Tryz.func66, Tryz.ntmps66
    go_wp2
    go_ret
    exact ⟨rfl, rfl⟩
  · have e0 : s.toList.isEmpty = false := by
      have := Lib.size_eq s
      rw [Lib.toList_data]
      cases h : s.data.toList with
      | nil => rw [h] at this; exact absurd this h0
      | cons _ _ => rfl
    by_cases h1 : 255 < s.size
    · have d : decide ((255 : Int) < (s.size : Int)) = true := by simp; omega
      have HE : Hid (checkN s.size = 4) := Lib.hid (by unfold checkN; rw [if_neg h0, if_pos h1])
      rw [HE.out]
      clear h0 h1
      go_enter Tryz.func66, Tryz.ntmps66
      go_wp2
      go_ret
      exact ⟨rfl, rfl⟩
    · have d : decide ((255 : Int) < (s.size : Int)) = false := by simp; omega
      have HE : Hid (checkN s.size = 0) := Lib.hid (by unfold checkN; rw [if_neg h0, if_neg h1])
      rw [HE.out]
      clear h0 h1
      go_enter Tryz.func66, Tryz.ntmps66
      go_wp2
      go_ret
      exact ⟨rfl, rfl⟩

theorem beq_turn (a b : UInt8) : (a == b) = (b == a) := by
  by_cases h : b = a
  · subst h; rfl
  · rw [beq_eq_false_iff_ne.2 h, beq_eq_false_iff_ne.2 (fun e => h e.symm)]
theorem lit_step (c : UInt8) (l : List UInt8) : litL (c :: l) = (!wildR c && litL l) := by
  have e1 : (42 == c) = (c == 42) := beq_turn _ _
  have e2 : (63 == c) = (c == 63) := beq_turn _ _
  simp only [litL, wildR, List.contains_cons, e1, e2]
  cases (c == 42) <;> cases (c == 63) <;> cases l.contains 42 <;> cases l.contains 63 <;> rfl



/-- The cells of a block, the first k of them in lower case. -/
def LowCells (w : World) (B : Nat) (s : ByteArray) (k : Nat) : Prop :=
  ∀ (j : Nat) (h : j < s.size), w.cell? ⟨B, j, none⟩ = some (.int .u8 ((if j < k then foldC (s[j]'h) else s[j]'h).toNat : Int)) ∧ w.frozen? ⟨B, j, none⟩ = false

theorem LowCells.step {w : World} {B : Nat} {s : ByteArray} {k : Nat} (h : LowCells w B s k) (hk : k < s.size) :
    LowCells (w.setCell ⟨B, k, none⟩ (.int .u8 ((foldC s[k]).toNat : Int))) B s (k + 1) := by
  intro j hj
  obtain ⟨h1, h2⟩ := h j hj
  by_cases e : j = k
  · subst e
    refine ⟨?_, by rw [World.frozen?_setCell]; exact h2⟩
    rw [World.cell?_setCell_same _ _ _ h1, if_pos (by omega)]
  · refine ⟨?_, by rw [World.frozen?_setCell]; exact h2⟩
    rw [World.cell?_setCell_other _ _ _ _ (by intro h; injection h with _ h; exact e h.symm), h1]
    by_cases hjk : j < k
    · rw [if_pos hjk, if_pos (by omega)]
    · rw [if_neg hjk, if_neg (by omega)]

theorem LowCells.stay {w : World} {B : Nat} {s : ByteArray} {k : Nat} (h : LowCells w B s k) (hk : k < s.size) (hc : foldC s[k] = s[k]) : LowCells w B s (k + 1) := by
  intro j hj
  obtain ⟨h1, h2⟩ := h j hj
  refine ⟨?_, h2⟩
  rw [h1]
  by_cases e : j = k
  · subst e; rw [if_neg (by omega), if_pos (by omega), hc]
  · by_cases hjk : j < k
    · rw [if_pos hjk, if_pos (by omega)]
    · rw [if_neg hjk, if_neg (by omega)]

theorem foldC_up {c : UInt8} (h0 : 65 ≤ c.toNat) (h1 : c.toNat ≤ 90) : ((foldC c).toNat : Int) = (c.toNat : Int) + 32 := by
  have := foldC_hi h0 h1
  omega

set_option maxHeartbeats 2000000 in
theorem refFold (s : ByteArray) (w : World) (hs : s.size ≤ 1000000) :
    Calls Tryz.prog 87 #[.string s] w fun e w' => e = .returned (.string (str (foldL s.data.toList))) ∧ Below w.heap.size w w' := by
  have hconv := run_bytes_of_string (P := Tryz.prog) w 9 85 5 s Tryz.underlying9 Tryz.underlying85 Tryz.underlying5
  obtain ⟨cap, hcap⟩ : ∃ cap, cap = grownCap w s.size 0 5 := ⟨_, rfl⟩
  rw [← hcap] at hconv
  clear hcap
  obtain ⟨W, hW⟩ : ∃ W, W = (w.drew.alloc (.cells (bytesRow s cap) 5 ((bytesRow s cap).size, (bytesRow s cap).size + 1))) := ⟨_, rfl⟩
  have hlow : LowCells W w.heap.size s 0 := by
    intro j hj
    have hb : j < (bytesRow s cap).size := by
      unfold bytesRow
      simp
      have : s.data.size = s.size := rfl
      omega
    subst hW
    refine ⟨?_, ?_⟩
    · have := World.cell?_alloc_mark w.drew (bytesRow s cap) 5 ((bytesRow s cap).size, (bytesRow s cap).size + 1) j
      rw [show w.drew.heap.size = w.heap.size from rfl] at this
      rw [this, bytesRow_at s cap j hj]
      rfl
    · have := World.frozen?_alloc_mark w.drew (bytesRow s cap) 5 (bytesRow s cap).size ((bytesRow s cap).size + 1) j
      rw [show w.drew.heap.size = w.heap.size from rfl] at this
      rw [this]
      simp
      omega
  have hbel : Below w.heap.size w W := by
    subst hW
    exact (Below.refl _ w).drew.alloc (Nat.le_refl _) _
  rw [← hW] at hconv
  clear hW
  have HL := Lib.hid hlow
  have HB := Lib.hid hbel
  clear hlow hbel
  go_enter Tryz.func87, Tryz.ntmps87
  go_wp2
  go_loopg [4] s.size (fun gk s4 wr => ∃ k : Nat, k + gk = s.size ∧ s4 = .int .i64 k ∧ Hid (LowCells wr w.heap.size s k) ∧ Hid (Below w.heap.size w wr))
  case atStart => exact ⟨0, by omega, rfl, HL, HB⟩
  case round =>
    obtain ⟨k, hkg, rfl, HI, HW⟩ := hrel
    cases gk with
    | zero =>
      have hkz : ¬ ((k : Int) < (s.size : Int)) := by omega
      have hback : (convert 85 9 (.slice (some ⟨w.heap.size, 0, none⟩) s.size cap)).run Tryz.prog wr = .ok (.string (str (foldL s.data.toList))) wr := by
        have hl : (foldL s.data.toList).length = s.size := by rw [Lib.size_eq]; simp [foldL]
        have := run_convert_bytes_back (P := Tryz.prog) wr 85 9 5 ⟨w.heap.size, 0, none⟩ cap (foldL s.data.toList) Tryz.underlying85 Tryz.underlying5 Tryz.underlying9 (fun j hj => by
          have hj' : j < s.size := by omega
          have := (HI.out j hj').1
          rw [if_pos (by omega)] at this
          have ea : (⟨w.heap.size, 0, none⟩ : Addr).add j = ⟨w.heap.size, j, none⟩ := by unfold Addr.add; split <;> simp_all
          rw [ea, this]
          have : (foldL s.data.toList)[j] = foldC s[j] := by simp [foldL]; rfl
          rw [this])
        rw [hl] at this
        exact this
      go_wp2
      go_ret
      exact ⟨rfl, HW.out⟩
    | succ g' =>
      have hlt : k < s.size := by omega
      have hc0 := (HI.out k hlt).1
      rw [if_neg (by omega)] at hc0
      have hf0 := (HI.out k hlt).2
      have hu := (s[k]'hlt).toNat_lt
      by_cases h1 : 65 ≤ (s[k]'hlt).toNat <;> by_cases h2 : (s[k]'hlt).toNat ≤ 90
      all_goals
        have d1 : decide ((65 : Int) ≤ ((s[k]'hlt).toNat : Int)) = decide (65 ≤ (s[k]'hlt).toNat) := by simp only [decide_eq_decide]; omega
        have d2 : decide (((s[k]'hlt).toNat : Int) ≤ 90) = decide ((s[k]'hlt).toNat ≤ 90) := by simp only [decide_eq_decide]; omega
        first | rw [decide_eq_true h1] at d1 | rw [decide_eq_false h1] at d1
        first | rw [decide_eq_true h2] at d2 | rw [decide_eq_false h2] at d2
      · have HS : Hid (LowCells (wr.setCell ⟨w.heap.size, k, none⟩ (.int .u8 (((s[k]'hlt).toNat : Int) + 32))) w.heap.size s (k + 1)) := Lib.hid (by rw [← foldC_up h1 h2]; exact HI.out.step hlt)
        go_wp2
        go_roundg g'
        case measure => omega
        case rel => exact ⟨k + 1, by omega, by go_num, HS, Lib.hid (HW.out.setCell (Nat.le_refl _) _)⟩
      all_goals
        have HS : Hid (LowCells wr w.heap.size s (k + 1)) := Lib.hid (HI.out.stay hlt (foldC_lo (by omega)))
        go_wp2
        go_roundg g'
        case measure => omega
        case rel => exact ⟨k + 1, by omega, by go_num, HS, HW⟩
end Go.Proofs.YtnpgmekgmelamaaGreat
