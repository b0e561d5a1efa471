/-
  What is proved: plain facts on decimal digits: reading the digits of a number from 0 on, whatever follows except a digit, gives the number and how many digits it has. Conditions: the number is at most 2^53 - 1. Nothing here speaks of the program.
-/
import Derived.Lib.ItoaMem
namespace Go.Proofs.YtobdogkdlopifaaRRDoorRR
open Go

/-- Is a byte a decimal digit? -/
def isDig (c : UInt8) : Bool := decide (48 ≤ c.toNat) && decide (c.toNat ≤ 57)
theorem isDig_iff (c : UInt8) : isDig c = true ↔ 48 ≤ c.toNat ∧ c.toNat ≤ 57 := by simp [isDig]
theorem isDig_false_iff (c : UInt8) : isDig c = false ↔ c.toNat < 48 ∨ 57 < c.toNat := by
  rw [← Bool.not_eq_true, isDig_iff]; omega

/-- One digit more; a number above 2^53 - 1 stays as it is. -/
def rdStep (n : Int) (c : UInt8) : Int := if n ≤ 9007199254740991 then n * 10 + ((c.toNat : Int) - 48) else n
/-- The number that the leading digits make, and how many they are. -/
def rdFrom (n : Int) (k : Nat) : List UInt8 → Int × Nat
  | [] => (n, k)
  | c :: l => if isDig c then rdFrom (rdStep n c) (k + 1) l else (n, k)

theorem rdFrom_dig {n : Int} {k : Nat} {c : UInt8} {l : List UInt8} (h : isDig c = true) : rdFrom n k (c :: l) = rdFrom (rdStep n c) (k + 1) l := by simp [rdFrom, h]
theorem rdFrom_non {n : Int} {k : Nat} {c : UInt8} {l : List UInt8} (h : isDig c = false) : rdFrom n k (c :: l) = (n, k) := by simp [rdFrom, h]
theorem rdStep_lo {n : Int} (h : n ≤ 9007199254740991) (c : UInt8) : rdStep n c = n * 10 + ((c.toNat : Int) - 48) := by simp [rdStep, h]
theorem rdStep_hi {n : Int} (h : ¬ n ≤ 9007199254740991) (c : UInt8) : rdStep n c = n := by simp [rdStep, h]
theorem rdStep_bd {n : Int} (h0 : 0 ≤ n) (h1 : n ≤ 90071992547409919) {c : UInt8} (hc : isDig c = true) : 0 ≤ rdStep n c ∧ rdStep n c ≤ 90071992547409919 := by
  rw [isDig_iff] at hc
  unfold rdStep
  split <;> omega

/-- What stands behind does not begin with a digit. -/
def noDig (b : List UInt8) : Prop := ∀ c l, b = c :: l → isDig c = false
theorem rdFrom_stop {n : Int} {k : Nat} {b : List UInt8} (h : noDig b) : rdFrom n k b = (n, k) := by
  cases b with
  | nil => rfl
  | cons c l => exact rdFrom_non (h c l rfl)

theorem rdFrom_append {b : List UInt8} : ∀ (ds : List UInt8) (n : Int) (k : Nat), (∀ c ∈ ds, isDig c = true) → rdFrom n k (ds ++ b) = rdFrom (ds.foldl rdStep n) (k + ds.length) b
  | [], n, k, _ => by simp
  | c :: ds, n, k, h => by
    rw [List.cons_append, rdFrom_dig (h c (by simp)), rdFrom_append ds _ _ (fun x hx => h x (by simp [hx]))]
    simp only [List.foldl_cons, List.length_cons]
    congr 1
    omega

theorem dig_ofNat (i : Nat) (h : i < 10) : isDig (UInt8.ofNat (48 + i)) = true ∧ ((UInt8.ofNat (48 + i)).toNat : Int) = 48 + (i : Int) := by
  have e : (UInt8.ofNat (48 + i)).toNat = 48 + i := by
    rw [UInt8.toNat_ofNat']; omega
  refine ⟨by rw [isDig_iff, e]; omega, by rw [e]; omega⟩

theorem decDigits_dig (u : Nat) : ∀ c ∈ Lib.decDigits u, isDig c = true := by
  induction u using Nat.strongRecOn with
  | _ u ih =>
    intro c hc
    rw [Lib.decDigits] at hc
    split at hc
    · rename_i h
      simp only [List.mem_singleton] at hc
      subst hc
      exact (dig_ofNat u h).1
    · rw [List.mem_append] at hc
      rcases hc with hc | hc
      · exact ih (u / 10) (by omega) c hc
      · simp only [List.mem_singleton] at hc
        subst hc
        exact (dig_ofNat _ (Nat.mod_lt _ (by decide))).1

theorem foldl_decDigits (u : Nat) (h : u ≤ 9007199254740991) : (Lib.decDigits u).foldl rdStep 0 = (u : Int) := by
  induction u using Nat.strongRecOn with
  | _ u ih =>
    rw [Lib.decDigits]
    split
    · rename_i hu
      simp only [List.foldl_cons, List.foldl_nil]
      rw [rdStep_lo (by omega), (dig_ofNat u hu).2]
      omega
    · rename_i hu
      rw [List.foldl_append, ih (u / 10) (by omega) (by omega)]
      simp only [List.foldl_cons, List.foldl_nil]
      rw [rdStep_lo (by omega), (dig_ofNat _ (Nat.mod_lt u (by decide))).2]
      omega

theorem decDigits_head (u : Nat) : ∃ c l, Lib.decDigits u = c :: l ∧ isDig c = true ∧ (c = 48 → u = 0 ∧ l = []) := by
  induction u using Nat.strongRecOn with
  | _ u ih =>
    rw [Lib.decDigits]
    split
    · rename_i hu
      refine ⟨_, _, rfl, (dig_ofNat u hu).1, fun h => ?_⟩
      have e := (dig_ofNat u hu).2
      rw [h] at e
      have : ((48 : UInt8).toNat : Int) = 48 := rfl
      exact ⟨by omega, rfl⟩
    · rename_i hu
      obtain ⟨c, l, h1, h2, h3⟩ := ih (u / 10) (by omega)
      refine ⟨c, l ++ [UInt8.ofNat (48 + u % 10)], by rw [h1]; rfl, h2, fun h => ?_⟩
      have := (h3 h).1
      exact absurd this (by omega)

/-- Reading what a number from 0 on was written as. -/
theorem rdFrom_decDigits (u : Nat) (h : u ≤ 9007199254740991) (b : List UInt8) (hb : noDig b) : rdFrom 0 0 (Lib.decDigits u ++ b) = ((u : Int), (Lib.decDigits u).length) := by
  rw [rdFrom_append _ _ _ (decDigits_dig u), foldl_decDigits u h, rdFrom_stop hb, Nat.zero_add]

theorem decDigits_inj {u v : Nat} (hu : u ≤ 9007199254740991) (hv : v ≤ 9007199254740991) (h : Lib.decDigits u = Lib.decDigits v) : u = v := by
  have a := foldl_decDigits u hu
  have b := foldl_decDigits v hv
  rw [h, b] at a
  omega

/-- Digits determine one number. -/
theorem itoa_inj {m n : Int} (hm0 : -9007199254740991 ≤ m) (hm1 : m ≤ 9007199254740991) (hn0 : -9007199254740991 ≤ n) (hn1 : n ≤ 9007199254740991) (h : Lib.itoa m = Lib.itoa n) : m = n := by
  have no45 : ∀ (u : Nat) (l : List UInt8), Lib.decDigits u ≠ 45 :: l := by
    intro u l e
    have := decDigits_dig u 45 (by rw [e]; simp)
    rw [isDig_iff] at this
    have : ((45 : UInt8).toNat) = 45 := rfl
    omega
  unfold Lib.itoa at h
  split at h <;> split at h
  · have := decDigits_inj (by omega) (by omega) (List.cons.inj h).2
    omega
  · exact absurd h.symm (no45 _ _)
  · exact absurd h (no45 _ _)
  · have := decDigits_inj (by omega) (by omega) h
    omega
end Go.Proofs.YtobdogkdlopifaaRRDoorRR
