/-
  What is proved: ident.Lower returns its string with A to Z replaced by a to z, byte by byte (IdMath's lowerL), at any string of at most 1,000,000 bytes. What lay in memory before stands as it stood.
-/
import Derived.Test.YtemomaeecelofaaIdCode
import Derived.Laws.IdiomStrings
namespace Go.Proofs.Ytemomaeecelofaa
open Go.RowKit

/-- The cells of a block, the first k of them in lower case. -/
def LowCells (w : World) (B : Nat) (s : ByteArray) (k : Nat) : Prop :=
  ∀ (j : Nat) (h : j < s.size), w.cell? ⟨B, j, none⟩ = some (.int .u8 ((if j < k then lowerC (s[j]'h) else s[j]'h).toNat : Int)) ∧ w.frozen? ⟨B, j, none⟩ = false

theorem LowCells.step {w : World} {B : Nat} {s : ByteArray} {k : Nat} (h : LowCells w B s k) (hk : k < s.size) :
    LowCells (w.setCell ⟨B, k, none⟩ (.int .u8 ((lowerC s[k]).toNat : Int))) B s (k + 1) := by
  intro j hj
  obtain ⟨h1, h2⟩ := h j hj
  by_cases e : j = k
  · subst e
    refine ⟨?_, by rw [World.frozen?_setCell]; exact h2⟩
    rw [World.cell?_setCell_same _ _ _ h1, if_pos (by omega)]
  · refine ⟨?_, by rw [World.frozen?_setCell]; exact h2⟩
    rw [World.cell?_setCell_other _ _ _ _ (by intro h; injection h with _ h; exact e h.symm), h1]
    by_cases hjk : j < k
    · rw [if_pos hjk, if_pos (by omega)]
    · rw [if_neg hjk, if_neg (by omega)]

theorem LowCells.stay {w : World} {B : Nat} {s : ByteArray} {k : Nat} (h : LowCells w B s k) (hk : k < s.size) (hc : lowerC s[k] = s[k]) : LowCells w B s (k + 1) := by
  intro j hj
  obtain ⟨h1, h2⟩ := h j hj
  refine ⟨?_, h2⟩
  rw [h1]
  by_cases e : j = k
  · subst e; rw [if_neg (by omega), if_pos (by omega), hc]
  · by_cases hjk : j < k
    · rw [if_pos hjk, if_pos (by omega)]
    · rw [if_neg hjk, if_neg (by omega)]

theorem lowerC_hi {c : UInt8} (h0 : 65 ≤ c.toNat) (h1 : c.toNat ≤ 90) : ((lowerC c).toNat : Int) = (c.toNat : Int) - 65 + 97 := by
  have : capC c = true := by simp [capC]; omega
  unfold lowerC
  rw [if_pos this, UInt8.toNat_add]
  have : (32 : UInt8).toNat = 32 := rfl
  omega
theorem lowerC_lo {c : UInt8} (h : ¬ (65 ≤ c.toNat ∧ c.toNat ≤ 90)) : lowerC c = c := by
  have : capC c = false := by simp [capC]; omega
  unfold lowerC
  rw [this]; rfl

set_option maxHeartbeats 2000000 in
theorem lower_any (s : ByteArray) (w : World) (hs : s.size ≤ 1000000) :
    Calls Try.prog 11 #[.string s] w fun e w' => e = .returned (.string (str (lowerL s.data.toList))) ∧ Below w.heap.size w w' := by
  have hconv := run_bytes_of_string (P := Try.prog) w 9 31 5 s Try.underlying9 Try.underlying31 Try.underlying5
  obtain ⟨cap, hcap⟩ : ∃ cap, cap = grownCap w s.size 0 5 := ⟨_, rfl⟩
  rw [← hcap] at hconv
  clear hcap
  obtain ⟨W, hW⟩ : ∃ W, W = (w.drew.alloc (.cells (bytesRow s cap) 5 ((bytesRow s cap).size, (bytesRow s cap).size + 1))) := ⟨_, rfl⟩
  have hlow : LowCells W w.heap.size s 0 := by
    intro j hj
    have hb : j < (bytesRow s cap).size := by
      unfold bytesRow
      simp
      have : s.data.size = s.size := rfl
      omega
    subst hW
    refine ⟨?_, ?_⟩
    · have := World.cell?_alloc_mark w.drew (bytesRow s cap) 5 ((bytesRow s cap).size, (bytesRow s cap).size + 1) j
      rw [show w.drew.heap.size = w.heap.size from rfl] at this
      rw [this, bytesRow_at s cap j hj]
      rfl
    · have := World.frozen?_alloc_mark w.drew (bytesRow s cap) 5 (bytesRow s cap).size ((bytesRow s cap).size + 1) j
      rw [show w.drew.heap.size = w.heap.size from rfl] at this
      rw [this]
      simp
      omega
  have hbel : Below w.heap.size w W := by
    subst hW
    exact (Below.refl _ w).drew.alloc (Nat.le_refl _) _
  rw [← hW] at hconv
  clear hW
  have HL := Lib.hid hlow
  have HB := Lib.hid hbel
  clear hlow hbel
  go_enter Try.func11, Try.ntmps11
  go_wp2
  go_loopg [10] s.size (fun gk s10 wr => ∃ k : Nat, k + gk = s.size ∧ s10 = .int .i64 k ∧ Hid (LowCells wr w.heap.size s k) ∧ Hid (Below w.heap.size w wr))
  case atStart => exact ⟨0, by omega, rfl, HL, HB⟩
  case round =>
    obtain ⟨k, hkg, rfl, HI, HW⟩ := hrel
    cases gk with
    | zero =>
      have hkz : ¬ ((k : Int) < (s.size : Int)) := by omega
      have hback : (convert 31 9 (.slice (some ⟨w.heap.size, 0, none⟩) s.size cap)).run Try.prog wr = .ok (.string (str (lowerL s.data.toList))) wr := by
        have hl : (lowerL s.data.toList).length = s.size := by rw [low_len, Lib.size_eq]
        have := run_convert_bytes_back (P := Try.prog) wr 31 9 5 ⟨w.heap.size, 0, none⟩ cap (lowerL s.data.toList) Try.underlying31 Try.underlying5 Try.underlying9 (fun j hj => by
          have hj' : j < s.size := by omega
          have := (HI.out j hj').1
          rw [if_pos (by omega)] at this
          have ea : (⟨w.heap.size, 0, none⟩ : Addr).add j = ⟨w.heap.size, j, none⟩ := by unfold Addr.add; split <;> simp_all
          rw [ea, this]
          have : (lowerL s.data.toList)[j] = lowerC s[j] := by simp [lowerL]; rfl
          rw [this])
        rw [hl] at this
        exact this
      go_wp2
      go_ret
      exact ⟨rfl, HW.out⟩
    | succ g' =>
      have hlt : k < s.size := by omega
      have hc0 := (HI.out k hlt).1
      rw [if_neg (by omega)] at hc0
      have hf0 := (HI.out k hlt).2
      have hu := (s[k]'hlt).toNat_lt
      by_cases h1 : 65 ≤ (s[k]'hlt).toNat <;> by_cases h2 : (s[k]'hlt).toNat ≤ 90
      all_goals
        have d1 : decide ((65 : Int) ≤ ((s[k]'hlt).toNat : Int)) = decide (65 ≤ (s[k]'hlt).toNat) := by simp only [decide_eq_decide]; omega
        have d2 : decide (((s[k]'hlt).toNat : Int) ≤ 90) = decide ((s[k]'hlt).toNat ≤ 90) := by simp only [decide_eq_decide]; omega
        first | rw [decide_eq_true h1] at d1 | rw [decide_eq_false h1] at d1
        first | rw [decide_eq_true h2] at d2 | rw [decide_eq_false h2] at d2
      · have HS : Hid (LowCells (wr.setCell ⟨w.heap.size, k, none⟩ (.int .u8 (((s[k]'hlt).toNat : Int) - 65 + 97))) w.heap.size s (k + 1)) := Lib.hid (by rw [← lowerC_hi h1 h2]; exact HI.out.step hlt)
        go_wp2
        go_roundg g'
        case measure => omega
        case rel => exact ⟨k + 1, by omega, by go_num, HS, Lib.hid (HW.out.setCell (Nat.le_refl _) _)⟩
      all_goals
        have HS : Hid (LowCells wr w.heap.size s (k + 1)) := Lib.hid (HI.out.stay hlt (lowerC_lo (by omega)))
        go_wp2
        go_roundg g'
        case measure => omega
        case rel => exact ⟨k + 1, by omega, by go_num, HS, HW⟩
end Go.Proofs.Ytemomaeecelofaa
