/-
  What is proved: what the small functions of package glob return: Check, Least, foldByte, equality and its two function values, Literal, as functions on lists of bytes (GlMath). What lay in memory before stands as it stood. Conditions: strings of at most 1,000,000 bytes.
-/
import Derived.Test.YtnpgmekgmelamaaGreatShelf
import Derived.Test.YtnpgmekgmelamaaGreatGlMath
import Derived.WalkKit
import Derived.BigCall
import Derived.BigQuiet
import Derived.WalkSpells
import Derived.WalkLawsBesides
import Derived.Deep.LoopGhost
import Derived.Below
import Derived.Outline
import Derived.Lib.Hide
namespace Go.Proofs.YtnpgmekgmelamaaGreat
open Go.RowKit

/-- A list of bytes as a string. -/
def str (l : List UInt8) : ByteArray := ⟨l.toArray⟩
theorem str_data (l : List UInt8) : (str l).data.toList = l := by simp [str]
theorem str_size (l : List UInt8) : (str l).size = l.length := by rw [Lib.size_eq, str_data]
theorem str_of (s : ByteArray) : str s.data.toList = s := by cases s; simp [str]
theorem drop_at (s : ByteArray) (k : Nat) (h : k < s.size) : s.data.toList.drop k = s[k] :: s.data.toList.drop (k + 1) := by
  rw [List.drop_eq_getElem_cons (by simpa using h)]; rfl
theorem drop_end (s : ByteArray) (k : Nat) (h : s.size ≤ k) : s.data.toList.drop k = [] := List.drop_eq_nil_of_le (by simpa using h)
theorem ret_bool {a b : Bool} (h : a = b) : Ending.returned (.bool a) = Ending.returned (.bool b) := by rw [h]
theorem byte_beq (a b : UInt8) : ((a.toNat : Int) == (b.toNat : Int)) = (a == b) := by
  by_cases h : a = b
  · subst h; simp
  · have : (a == b) = false := by simpa using h
    rw [this, beq_eq_false_iff_ne]
    intro e
    exact h (UInt8.toNat_inj.1 (by omega))

theorem iv {a : Int} {n : Nat} (h : a = n) : Value.int .i64 a = .int .i64 n := by rw [h]
theorem foldC_hi {c : UInt8} (h0 : 65 ≤ c.toNat) (h1 : c.toNat ≤ 90) : ((foldC c).toNat : Int) = (c.toNat : Int) - 65 + 97 := by
  have : capC c = true := by simp [capC]; omega
  unfold foldC
  rw [if_pos this, UInt8.toNat_add]
  have : (32 : UInt8).toNat = 32 := rfl
  omega
theorem foldC_lo {c : UInt8} (h : ¬ (65 ≤ c.toNat ∧ c.toNat ≤ 90)) : foldC c = c := by
  have : capC c = false := by simp [capC]; omega
  unfold foldC
  rw [this]; rfl

theorem foldByte_any (c : UInt8) (w : World) :
    Calls Tryz.prog 93 #[.int .u8 (c.toNat : Int)] w fun e w' => e = .returned (.int .u8 ((foldC c).toNat : Int)) ∧ w' = w := by
  have hc := c.toNat_lt
  by_cases h : 65 ≤ c.toNat ∧ c.toNat ≤ 90
  · obtain ⟨h1, h2⟩ := h
    have d1 : decide ((65 : Int) ≤ (c.toNat : Int)) = true := by simp; omega
    have d2 : decide ((c.toNat : Int) ≤ 90) = true := by simp; omega
    rw [foldC_hi h1 h2]
    go_enter Tryz.func93, Tryz.ntmps93
    go_wp2
    go_ret
    exact ⟨rfl, rfl⟩
  · rw [foldC_lo h]
    by_cases h1 : 65 ≤ c.toNat
    · have d1 : decide ((65 : Int) ≤ (c.toNat : Int)) = true := by simp; omega
      have d2 : decide ((c.toNat : Int) ≤ 90) = false := by simp; omega
      go_enter Tryz.func93, Tryz.ntmps93
      go_wp2
      go_ret
      exact ⟨rfl, rfl⟩
    · have d1 : decide ((65 : Int) ≤ (c.toNat : Int)) = false := by simp; omega
      go_enter Tryz.func93, Tryz.ntmps93
      go_wp2
      go_ret
      exact ⟨rfl, rfl⟩

/-- A function value that tells whether a byte stands for another. -/
def Same (g : Nat) (f : Bool) : Prop := ∀ (w : World) (c d : UInt8), Calls Tryz.prog g (#[.int .u8 (c.toNat : Int), .int .u8 (d.toNat : Int)] ++ #[]) w fun e w' => e = .returned (.bool (eqC f c d)) ∧ w' = w

theorem same_fold : Same 92 true := by
  intro w c d
  have C := Lib.hid fun c => foldByte_any c w
  have HE : Hid (eqC true c d = (((foldC c).toNat : Int) == ((foldC d).toNat : Int))) := Lib.hid (by rw [byte_beq]; rfl)
  rw [HE.out]
  go_enter Tryz.func92, Tryz.ntmps92
  go_wp2_with (go_at_call 93; refine (C.out _).mono ?_; rintro e w' ⟨rfl, rfl⟩)
  go_ret
  exact ⟨rfl, rfl⟩

theorem same_plain : Same 94 false := by
  intro w c d
  have HE : Hid (eqC false c d = ((c.toNat : Int) == (d.toNat : Int))) := Lib.hid (by rw [byte_beq]; rfl)
  rw [HE.out]
  go_enter Tryz.func94, Tryz.ntmps94
  go_wp2
  go_ret
  exact ⟨rfl, rfl⟩

theorem equality_any (f : Bool) (w : World) :
    Calls Tryz.prog 64 #[.bool f] w fun e w' => e = .returned (.func (.func (if f then 92 else 94)) #[] #[]) ∧ w' = w := by
  cases f
  all_goals
    go_enter Tryz.func64, Tryz.ntmps64
    go_wp2
    go_ret
    exact ⟨rfl, rfl⟩

theorem eq_enters1 : ∀ args w, (callFunc 92 args).run Tryz.prog w = .ok (.enter 92 args) w := enters_of Tryz.func92 (by kernel_rfl) rfl
theorem eq_enters2 : ∀ args w, (callFunc 94 args).run Tryz.prog w = .ok (.enter 94 args) w := enters_of Tryz.func94 (by kernel_rfl) rfl

theorem least_any (s : ByteArray) (w : World) (hs : s.size ≤ 1000000) :
    Calls Tryz.prog 65 #[.string s] w fun e w' => e = .returned (.int .i64 (least s.data.toList : Int)) ∧ w' = w := by
  have C := Lib.hid (Tryz.strings_Count_one s 42 w)
  have hl := least_count s.data.toList
  obtain ⟨n, hn⟩ : ∃ n : Nat, Lib.countByte s.data.toList 42 = n := ⟨_, rfl⟩
  have hn2 : s.data.toList.count 42 = n := by rw [← hn]; rfl
  rw [hn] at C
  rw [hn2, ← Lib.size_eq] at hl
  have hle : n ≤ s.size := by
    rw [← hn2, Lib.size_eq]; exact List.count_le_length
  have HL := Lib.hid hl
  clear hl hn hn2
  rw [← HL.out]
  go_enter Tryz.func65, Tryz.ntmps65
  go_wp2_with (go_at_call 95; refine C.out.mono ?_; rintro e w' ⟨rfl, rfl⟩)
  go_ret
  exact ⟨rfl, rfl⟩

/-- What Check returns. -/
def checkN (n : Nat) : Int := if n = 0 then 2 else if 255 < n then 4 else 0

theorem size0 {s : ByteArray} (h : s.size = 0) : s = ⟨#[]⟩ := by
  have : s.data.size = 0 := h
  cases s; simp at this; rw [this]

theorem check_any (s : ByteArray) (w : World) :
    Calls Tryz.prog 21 #[.string s] w fun e w' => e = .returned (.int .i64 (checkN s.size)) ∧ w' = w := by
  by_cases h0 : s.size = 0
  · have := size0 h0
    subst this
    go_enter Tryz.func21, Tryz.ntmps21
    go_wp2
    go_ret
    exact ⟨rfl, rfl⟩
  · have e0 : s.toList.isEmpty = false := by
      have := Lib.size_eq s
      rw [Lib.toList_data]
      cases h : s.data.toList with
      | nil => rw [h] at this; exact absurd this h0
      | cons _ _ => rfl
    by_cases h1 : 255 < s.size
    · have d : decide ((255 : Int) < (s.size : Int)) = true := by simp; omega
      have HE : Hid (checkN s.size = 4) := Lib.hid (by unfold checkN; rw [if_neg h0, if_pos h1])
      rw [HE.out]
      clear h0 h1
      go_enter Tryz.func21, Tryz.ntmps21
      go_wp2
      go_ret
      exact ⟨rfl, rfl⟩
    · have d : decide ((255 : Int) < (s.size : Int)) = false := by simp; omega
      have HE : Hid (checkN s.size = 0) := Lib.hid (by unfold checkN; rw [if_neg h0, if_neg h1])
      rw [HE.out]
      clear h0 h1
      go_enter Tryz.func21, Tryz.ntmps21
      go_wp2
      go_ret
      exact ⟨rfl, rfl⟩

theorem index_has (l : List UInt8) (c : UInt8) : decide (0 ≤ Lib.indexByte l c) = l.contains c := by
  induction l with
  | nil => rfl
  | cons a l ih =>
    have hge := Lib.indexByte_ge l c
    unfold Lib.indexByte
    by_cases e : a = c
    · subst e; simp
    · have e' : (a == c) = false := by simpa using e
      have e2 : (c == a) = false := by simpa using fun h => e h.symm
      rw [e', List.contains_cons, e2, Bool.false_or, ← ih]
      by_cases h : Lib.indexByte l c = -1
      · simp [h]
      · have h' : (Lib.indexByte l c == -1) = false := by simpa using h
        simp only [h']
        have : 0 ≤ Lib.indexByte l c := by omega
        simp [this]
        omega

/-- strings.Clone. -/
theorem clone_any (s : ByteArray) (w : World) (hs : s.size ≤ 1000000) :
    Calls Tryz.prog 75 #[.string s] w fun e w' => e = .returned (.string s) ∧ Below w.heap.size w w' := by
  have C := Lib.hid (Tryz.stringslite_Clone s w (by omega))
  go_enter Tryz.func75, Tryz.ntmps75
  go_wp2_with (go_at_call 103; refine C.out.mono ?_; rintro e w' ⟨rfl, b⟩)
  go_ret
  exact ⟨rfl, b⟩

def litS (s : ByteArray) : ByteArray := if litL s.data.toList then s else ⟨#[]⟩

set_option maxHeartbeats 1000000 in
set_option maxRecDepth 100000 in
theorem literal_any (s : ByteArray) (w : World) (hs : s.size ≤ 1000000) :
    Calls Tryz.prog 104 #[.string s] w fun e w' => e = .returned (.tuple #[.string (litS s), .bool (litL s.data.toList)]) ∧ Below w.heap.size w w' := by
  have C1 := Lib.hid (Tryz.strings_IndexByte s 42 w)
  have C2 := Lib.hid (Tryz.strings_IndexByte s 63 w)
  have C3 := Lib.hid (clone_any s w hs)
  have h1 := index_has s.data.toList 42
  have h2 := index_has s.data.toList 63
  rw [show ((42 : Int).toNat.toUInt8) = 42 from rfl] at C1
  rw [show ((63 : Int).toNat.toUInt8) = 63 from rfl] at C2
  obtain ⟨x, hx⟩ : ∃ x, Lib.indexByte s.data.toList 42 = x := ⟨_, rfl⟩
  obtain ⟨y, hy⟩ : ∃ y, Lib.indexByte s.data.toList 63 = y := ⟨_, rfl⟩
  rw [hx] at C1 h1
  rw [hy] at C2 h2
  clear hx hy
  cases e1 : s.data.toList.contains 42 with
  | true =>
    rw [e1] at h1
    have HL : Hid (litL s.data.toList = false) := Lib.hid (by unfold litL; rw [e1]; rfl)
    have HS : Hid (litS s = ⟨#[]⟩) := Lib.hid (by unfold litS; rw [HL.out]; rfl)
    rw [HS.out, HL.out]
    clear h2 e1 C2 C3
    go_enter Tryz.func104, Tryz.ntmps104
    go_wp2_with (go_at_call 126; refine C1.out.mono ?_; rintro e w' ⟨rfl, rfl⟩)
    go_ret2
    exact ⟨rfl, Below.refl _ _⟩
  | false =>
    rw [e1] at h1
    cases e2 : s.data.toList.contains 63 with
    | true =>
      rw [e2] at h2
      have HL : Hid (litL s.data.toList = false) := Lib.hid (by unfold litL; rw [e1, e2]; rfl)
      have HS : Hid (litS s = ⟨#[]⟩) := Lib.hid (by unfold litS; rw [HL.out]; rfl)
      rw [HS.out, HL.out]
      clear e1 e2 C3
      go_enter Tryz.func104, Tryz.ntmps104
      go_wp2_with (go_at_call 126; refine C1.out.mono ?_; rintro e w' ⟨rfl, rfl⟩)
      refine C2.out.mono ?_
      rintro e w' ⟨rfl, rfl⟩
      go_wp2
      go_ret2
      exact ⟨rfl, Below.refl _ _⟩
    | false =>
      rw [e2] at h2
      have HL : Hid (litL s.data.toList = true) := Lib.hid (by unfold litL; rw [e1, e2]; rfl)
      have HS : Hid (litS s = s) := Lib.hid (by unfold litS; rw [HL.out]; rfl)
      rw [HS.out, HL.out]
      clear e1 e2
      go_enter Tryz.func104, Tryz.ntmps104
      go_wp2_with (go_at_call 126; refine C1.out.mono ?_; rintro e w' ⟨rfl, rfl⟩)
      refine C2.out.mono ?_
      rintro e w' ⟨rfl, rfl⟩
      go_wp2_with fail
      refine C3.out.mono ?_
      rintro e w' ⟨rfl, b⟩
      go_wp2
      go_ret2
      exact ⟨rfl, b⟩
end Go.Proofs.YtnpgmekgmelamaaGreat
