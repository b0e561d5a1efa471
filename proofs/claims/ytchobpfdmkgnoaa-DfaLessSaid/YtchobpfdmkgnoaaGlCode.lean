/-
  What is proved: what the small functions of package glob return: Check, Least, foldByte, equality and its two function values, Literal, as functions on lists of bytes (GlMath). What lay in memory before stands as it stood. Conditions: strings of at most 1,000,000 bytes.
-/
import Derived.Test.YtchobpfdmkgnoaaShelf
import Derived.Test.YtchobpfdmkgnoaaGlMath
import Derived.WalkKit
import Derived.BigCall
import Derived.BigQuiet
import Derived.WalkSpells
import Derived.WalkLawsBesides
import Derived.Deep.LoopGhost
import Derived.Below
import Derived.Outline
import Derived.Lib.Hide
namespace Go.Proofs.Ytchobpfdmkgnoaa
open Go.RowKit

/-- A list of bytes as a string. -/
def str (l : List UInt8) : ByteArray := ⟨l.toArray⟩
theorem str_data (l : List UInt8) : (str l).data.toList = l := by simp [str]
theorem str_size (l : List UInt8) : (str l).size = l.length := by rw [Lib.size_eq, str_data]
theorem str_of (s : ByteArray) : str s.data.toList = s := by cases s; simp [str]
theorem drop_at (s : ByteArray) (k : Nat) (h : k < s.size) : s.data.toList.drop k = s[k] :: s.data.toList.drop (k + 1) := by
  rw [List.drop_eq_getElem_cons (by simpa using h)]; rfl
theorem drop_end (s : ByteArray) (k : Nat) (h : s.size ≤ k) : s.data.toList.drop k = [] := List.drop_eq_nil_of_le (by simpa using h)
theorem ret_bool {a b : Bool} (h : a = b) : Ending.returned (.bool a) = Ending.returned (.bool b) := by rw [h]
theorem byte_beq (a b : UInt8) : ((a.toNat : Int) == (b.toNat : Int)) = (a == b) := by
  by_cases h : a = b
  · subst h; simp
  · have : (a == b) = false := by simpa using h
    rw [this, beq_eq_false_iff_ne]
    intro e
    exact h (UInt8.toNat_inj.1 (by omega))

theorem iv {a : Int} {n : Nat} (h : a = n) : Value.int .i64 a = .int .i64 n := by rw [h]
theorem foldC_hi {c : UInt8} (h0 : 65 ≤ c.toNat) (h1 : c.toNat ≤ 90) : ((foldC c).toNat : Int) = (c.toNat : Int) - 65 + 97 := by
  have : capC c = true := by simp [capC]; omega
  unfold foldC
  rw [if_pos this, UInt8.toNat_add]
  have : (32 : UInt8).toNat = 32 := rfl
  omega
theorem foldC_lo {c : UInt8} (h : ¬ (65 ≤ c.toNat ∧ c.toNat ≤ 90)) : foldC c = c := by
  have : capC c = false := by simp [capC]; omega
  unfold foldC
  rw [this]; rfl

theorem foldByte_any (c : UInt8) (w : World) :
    Calls Try.prog 47 #[.int .u8 (c.toNat : Int)] w fun e w' => e = .returned (.int .u8 ((foldC c).toNat : Int)) ∧ w' = w := by
  have hc := c.toNat_lt
  by_cases h : 65 ≤ c.toNat ∧ c.toNat ≤ 90
  · obtain ⟨h1, h2⟩ := h
    have d1 : decide ((65 : Int) ≤ (c.toNat : Int)) = true := by simp; omega
    have d2 : decide ((c.toNat : Int) ≤ 90) = true := by simp; omega
    rw [foldC_hi h1 h2]
    go_enter Try.func47, Try.ntmps47
    go_wp2
    go_ret
    exact ⟨rfl, rfl⟩
  · rw [foldC_lo h]
    by_cases h1 : 65 ≤ c.toNat
    · have d1 : decide ((65 : Int) ≤ (c.toNat : Int)) = true := by simp; omega
      have d2 : decide ((c.toNat : Int) ≤ 90) = false := by simp; omega
      go_enter Try.func47, Try.ntmps47
      go_wp2
      go_ret
      exact ⟨rfl, rfl⟩
    · have d1 : decide ((65 : Int) ≤ (c.toNat : Int)) = false := by simp; omega
      go_enter Try.func47, Try.ntmps47
      go_wp2
      go_ret
      exact ⟨rfl, rfl⟩

/-- A function value that tells whether a byte stands for another. -/
def Same (g : Nat) (f : Bool) : Prop := ∀ (w : World) (c d : UInt8), Calls Try.prog g (#[.int .u8 (c.toNat : Int), .int .u8 (d.toNat : Int)] ++ #[]) w fun e w' => e = .returned (.bool (eqC f c d)) ∧ w' = w






/-- What Check returns. -/
def checkN (n : Nat) : Int := if n = 0 then 2 else if 255 < n then 4 else 0

theorem size0 {s : ByteArray} (h : s.size = 0) : s = ⟨#[]⟩ := by
  have : s.data.size = 0 := h
  cases s; simp at this; rw [this]

theorem check_any (s : ByteArray) (w : World) :
    Calls Try.prog 20 #[.string s] w fun e w' => e = .returned (.int .i64 (checkN s.size)) ∧ w' = w := by
  by_cases h0 : s.size = 0
  · have := size0 h0
    subst this
    go_enter Try.func20, Try.ntmps20
    go_wp2
    go_ret
    exact ⟨rfl, rfl⟩
  · have e0 : s.toList.isEmpty = false := by
      have := Lib.size_eq s
      rw [Lib.toList_data]
      cases h : s.data.toList with
      | nil => rw [h] at this; exact absurd this h0
      | cons _ _ => rfl
    by_cases h1 : 255 < s.size
    · have d : decide ((255 : Int) < (s.size : Int)) = true := by simp; omega
      have HE : Hid (checkN s.size = 4) := Lib.hid (by unfold checkN; rw [if_neg h0, if_pos h1])
      rw [HE.out]
      clear h0 h1
      go_enter Try.func20, Try.ntmps20
      go_wp2
      go_ret
      exact ⟨rfl, rfl⟩
    · have d : decide ((255 : Int) < (s.size : Int)) = false := by simp; omega
      have HE : Hid (checkN s.size = 0) := Lib.hid (by unfold checkN; rw [if_neg h0, if_neg h1])
      rw [HE.out]
      clear h0 h1
      go_enter Try.func20, Try.ntmps20
      go_wp2
      go_ret
      exact ⟨rfl, rfl⟩

theorem index_has (l : List UInt8) (c : UInt8) : decide (0 ≤ Lib.indexByte l c) = l.contains c := by
  induction l with
  | nil => rfl
  | cons a l ih =>
    have hge := Lib.indexByte_ge l c
    unfold Lib.indexByte
    by_cases e : a = c
    · subst e; simp
    · have e' : (a == c) = false := by simpa using e
      have e2 : (c == a) = false := by simpa using fun h => e h.symm
      rw [e', List.contains_cons, e2, Bool.false_or, ← ih]
      by_cases h : Lib.indexByte l c = -1
      · simp [h]
      · have h' : (Lib.indexByte l c == -1) = false := by simpa using h
        simp only [h']
        have : 0 ≤ Lib.indexByte l c := by omega
        simp [this]
        omega

/-- strings.Clone. -/
theorem clone_any (s : ByteArray) (w : World) (hs : s.size ≤ 1000000) :
    Calls Try.prog 48 #[.string s] w fun e w' => e = .returned (.string s) ∧ Below w.heap.size w w' := by
  have C := Lib.hid (Try.stringslite_Clone s w (by omega))
  go_enter Try.func48, Try.ntmps48
  go_wp2_with (go_at_call 63; refine C.out.mono ?_; rintro e w' ⟨rfl, b⟩)
  go_ret
  exact ⟨rfl, b⟩

def litS (s : ByteArray) : ByteArray := if litL s.data.toList then s else ⟨#[]⟩

end Go.Proofs.Ytchobpfdmkgnoaa
