/-
  What is proved: slices.Sort sorts bytes in memory, however many up to 1,000,000. Nothing else that lay in memory is changed.
-/
import Derived.Test.YtchobpfdmkgnoaaDfPar
import Derived.Test.YtchobpfdmkgnoaaDfPdq
import Derived.Test.YtchobpfdmkgnoaaDfLet
import Derived.Sort.Walk13a
import Derived.Sort.LotB
import Derived.Sort.LotD3
namespace Go.Proofs.Ytchobpfdmkgnoaa
open Go.RowKit Go.Shelf Go.Sort

theorem below_only {blk : Nat} {W W' : World} (h : RowKit.Below W.heap.size W W') : OnlyAt blk W.heap.size W W' := ⟨h.os, h.tape, h.output, h.size, fun k hk _ => h.block k hk⟩
theorem holds_below {blk off : Nat} {d : Array UInt8} {W W' : World} (h : Holds encB W blk off d) (hlt : blk < W.heap.size) (hb : RowKit.Below W.heap.size W W') : Holds encB W' blk off d := fun k hk => by
  obtain ⟨h1, h2⟩ := h k hk
  exact ⟨by rw [World.cell?_of_block (w := W) (hb.block blk hlt)]; exact h1, by rw [World.frozen?_of_block (w := W) (hb.block blk hlt)]; exact h2⟩
theorem code_two {h : Hint} (e : hintCode h = 2) : h = .decreasing := by cases h <;> simp [hintCode] at e ⊢
theorem code_one {h : Hint} : decide (h = .increasing) = (hintCode h == 1) := by cases h <;> decide

/-- What is known of a round's values. -/
structure RdAt (n : Nat) (dk : Array UInt8) (a b lim : Nat) (wb wp : Bool) (T : Array UInt8) (r : Rd UInt8) : Prop where
  s1 : r.d1.size = n
  s2 : r.d2.size = n
  s3 : r.pi.1.size = n
  pv : a ≤ r.pivot ∧ r.pivot < b
  cr : a ≤ r.c.1 ∧ r.c.1 < b
  b3 : Go.Sort.Below ltB a b r.pi.1
  brk : wb = false → r.d1 = breakPatterns dk a b ∧ r.lim = lim - 1
  nob : wb = true → r.d1 = dk ∧ r.lim = lim
  c : choosePivot ltB r.d1 a b = r.c
  dec : r.c.2 = .decreasing → reverseRange r.d1 a b = r.d2 ∧ r.pivot = (b - 1) - (r.c.1 - a) ∧ r.hint = .increasing
  ndc : r.c.2 ≠ .decreasing → r.d2 = r.d1 ∧ r.pivot = r.c.1 ∧ r.hint = r.c.2
  yes : (wb && wp && decide (r.hint = .increasing)) = true → partialInsertionSort ltB r.d2 a b = r.pi
  no : (wb && wp && decide (r.hint = .increasing)) = false → r.pi = (r.d2, false)
  lle : r.lim ≤ lim
  done : r.pi.2 = true → r.pi.1 = T
  eq : r.pi.2 = false → (decide (a > 0) && !ltB r.pi.1[a - 1]! r.pi.1[r.pivot]!) = true → a < (partitionEqual ltB r.pi.1 a b r.pivot).1 ∧ (partitionEqual ltB r.pi.1 a b r.pivot).1 ≤ b ∧ (partitionEqual ltB r.pi.1 a b r.pivot).2.size = n ∧ Go.Sort.Below ltB (partitionEqual ltB r.pi.1 a b r.pivot).1 b (partitionEqual ltB r.pi.1 a b r.pivot).2 ∧
    pdq ltB (partitionEqual ltB r.pi.1 a b r.pivot).2 (partitionEqual ltB r.pi.1 a b r.pivot).1 b r.lim wb wp = T
  prt : r.pi.2 = false → (decide (a > 0) && !ltB r.pi.1[a - 1]! r.pi.1[r.pivot]!) = false → ∀ mid ap d4, partition ltB r.pi.1 a b r.pivot = (mid, ap, d4) → a ≤ mid ∧ mid < b ∧ d4.size = n ∧ Go.Sort.Below ltB a mid d4 ∧ Go.Sort.Below ltB (mid + 1) b d4 ∧
    (mid - a < b - mid → (pdq ltB d4 a mid r.lim true true).size = n ∧ Go.Sort.Below ltB (mid + 1) b (pdq ltB d4 a mid r.lim true true) ∧ pdq ltB (pdq ltB d4 a mid r.lim true true) (mid + 1) b r.lim (decide (mid - a ≥ (b - a) / 8)) ap = T) ∧
    (¬ mid - a < b - mid → (pdq ltB d4 (mid + 1) b r.lim true true).size = n ∧ Go.Sort.Below ltB a mid (pdq ltB d4 (mid + 1) b r.lim true true) ∧ pdq ltB (pdq ltB d4 (mid + 1) b r.lim true true) a mid r.lim (decide (b - mid ≥ (b - a) / 8)) ap = T)

theorem pdq_stm : pdq_stmt ltB := pdq_holds insertionSort_holds heapSort_holds partialInsertionSort_holds (partition_holds ltB) (partitionEqual_holds ltB) reverseRange_holds
theorem rd_at {n : Nat} {dk : Array UInt8} {a b lim : Nat} {wb wp : Bool} {T : Array UInt8} (h12 : ¬ b - a ≤ 12) (hl : ¬ lim = 0) (hb : b ≤ n) (hs : dk.size = n) (hB : Go.Sort.Below ltB a b dk) (hT : pdq ltB dk a b lim wb wp = T) : ∃ r, RdAt n dk a b lim wb wp T r := by
  obtain ⟨s1, B1, hc1, s2, B2, hpv, s3, B3⟩ := rd_facts (limit := lim) (wb := wb) (wp := wp) swo_ltB partialInsertionSort_holds reverseRange_holds (show a < b by omega) (show b ≤ dk.size by omega) hB
  refine ⟨rd ltB dk a b lim wb wp, s1.trans hs, s2.trans hs, s3.trans hs, hpv, hc1, B3, fun h => (by subst h; exact rd_false), fun h => (by subst h; exact rd_true), rd_c.symm, fun h => ?_, fun h => rd_not h, fun h => (rd_pi_yes h).symm, fun h => rd_pi_no h, rd_lim_le, fun h => ?_, fun h1 h2 => ?_, fun h1 h2 mid ap d4 hx => ?_⟩
  · obtain ⟨e1, e2, e3⟩ := rd_dec h
    exact ⟨e1.symm, e2, e3⟩
  · rw [← hT, pdq_done h12 hl h]
  · have ha0 : 0 < a := by
      have := (Bool.and_eq_true _ _ ▸ h2).1
      simpa using this
    have hnl : ltB (rd ltB dk a b lim wb wp).pi.1[a - 1]! (rd ltB dk a b lim wb wp).pi.1[(rd ltB dk a b lim wb wp).pivot]! = false := by
      have := (Bool.and_eq_true _ _ ▸ h2).2
      simpa using this
    obtain ⟨g1, g2, g3, g4, _⟩ := round_eq swo_ltB (partitionEqual_holds ltB) ha0 hpv.1 hpv.2 (by omega) B3 hnl rfl
    exact ⟨g1, g2, g3.trans (s3.trans hs), g4, by rw [← hT, pdq_eq h12 hl h1 h2 ⟨g1, g2⟩]⟩
  · obtain ⟨g1, g2, g3, g4, g5, g6, g7⟩ := round_part swo_ltB (partition_holds ltB) hpv.1 hpv.2 (by omega) B3 hx
    have hm : (partition ltB (rd ltB dk a b lim wb wp).pi.1 a b (rd ltB dk a b lim wb wp).pivot).1 = mid := by rw [hx]
    refine ⟨g1, g2, g3.trans (s3.trans hs), g4, g5, fun hlt => ?_, fun hlt => ?_⟩
    · have hp := pdq_stm swo_ltB d4 a mid (rd ltB dk a b lim wb wp).lim true true g1 (by omega) g4
      refine ⟨hp.1.1.trans (g3.trans (s3.trans hs)), (g6 _ hp.1 hp.2).1, ?_⟩
      rw [← hT, pdq_left h12 hl h1 h2 (by rw [hm]; exact ⟨g1, g2⟩) (by rw [hm]; exact hlt), hx]
    · have hp := pdq_stm swo_ltB d4 (mid + 1) b (rd ltB dk a b lim wb wp).lim true true (by omega) (by omega) g5
      refine ⟨hp.1.1.trans (g3.trans (s3.trans hs)), (g7 _ hp.1 hp.2).1, ?_⟩
      rw [← hT, pdq_right h12 hl h1 h2 (by rw [hm]; exact ⟨g1, g2⟩) (by rw [hm]; exact hlt), hx]

/-- The callees' contracts, where the slice has n bytes. -/
structure CalleesN (n blk off cap : Nat) : Prop where
  ins : ∀ (W : World) (dk : Array UInt8) (x y : Nat), Holds encB W blk off dk → dk.size = n → x ≤ y → y ≤ n → Calls Try.prog 72 #[.slice (some ⟨blk, off, none⟩) n cap, .int .i64 (x : Int), .int .i64 (y : Int)] W fun e w' => e = .returned (.tuple #[]) ∧ Holds encB w' blk off (insertionSort ltB dk x y) ∧ OnlyAt blk W.heap.size W w'
  heap : ∀ (W : World) (dk : Array UInt8) (x y : Nat), Holds encB W blk off dk → dk.size = n → x < y → y ≤ n → Calls Try.prog 73 #[.slice (some ⟨blk, off, none⟩) n cap, .int .i64 (x : Int), .int .i64 (y : Int)] W fun e w' => e = .returned (.tuple #[]) ∧ Holds encB w' blk off (heapSort ltB dk x y) ∧ OnlyAt blk W.heap.size W w'
  brk : ∀ (W : World) (dk : Array UInt8) (x y : Nat), Holds encB W blk off dk → dk.size = n → blk < W.heap.size → x + 8 ≤ y → y ≤ n → Calls Try.prog 74 #[.slice (some ⟨blk, off, none⟩) n cap, .int .i64 (x : Int), .int .i64 (y : Int)] W fun e w' => e = .returned (.tuple #[]) ∧ Holds encB w' blk off (breakPatterns dk x y) ∧ OnlyAt blk W.heap.size W w'
  piv : ∀ (W : World) (dk : Array UInt8) (x y : Nat), Holds encB W blk off dk → dk.size = n → blk < W.heap.size → x + 12 < y → y ≤ n → Calls Try.prog 75 #[.slice (some ⟨blk, off, none⟩) n cap, .int .i64 (x : Int), .int .i64 (y : Int)] W fun e w' => e = .returned (.tuple #[.int .i64 ((choosePivot ltB dk x y).1 : Int), .int .i64 (hintCode (choosePivot ltB dk x y).2)]) ∧ RowKit.Below W.heap.size W w'
  rev : ∀ (W : World) (dk : Array UInt8) (x y : Nat), Holds encB W blk off dk → dk.size = n → x < y → y ≤ n → Calls Try.prog 76 #[.slice (some ⟨blk, off, none⟩) n cap, .int .i64 (x : Int), .int .i64 (y : Int)] W fun e w' => e = .returned (.tuple #[]) ∧ Holds encB w' blk off (reverseRange dk x y) ∧ OnlyAt blk W.heap.size W w'
  pin : ∀ (W : World) (dk : Array UInt8) (x y : Nat), Holds encB W blk off dk → dk.size = n → x < y → y ≤ n → Calls Try.prog 77 #[.slice (some ⟨blk, off, none⟩) n cap, .int .i64 (x : Int), .int .i64 (y : Int)] W fun e w' => e = .returned (.bool (partialInsertionSort ltB dk x y).2) ∧ Holds encB w' blk off (partialInsertionSort ltB dk x y).1 ∧ OnlyAt blk W.heap.size W w'
  peq : ∀ (W : World) (dk : Array UInt8) (x y p : Nat), Holds encB W blk off dk → dk.size = n → x ≤ p → p < y → y ≤ n → Calls Try.prog 79 #[.slice (some ⟨blk, off, none⟩) n cap, .int .i64 (x : Int), .int .i64 (y : Int), .int .i64 (p : Int)] W fun e w' => e = .returned (.int .i64 ((partitionEqual ltB dk x y p).1 : Int)) ∧ Holds encB w' blk off (partitionEqual ltB dk x y p).2 ∧ OnlyAt blk W.heap.size W w'
  prt : ∀ (W : World) (dk : Array UInt8) (x y p : Nat), Holds encB W blk off dk → dk.size = n → x ≤ p → p < y → y ≤ n → Calls Try.prog 80 #[.slice (some ⟨blk, off, none⟩) n cap, .int .i64 (x : Int), .int .i64 (y : Int), .int .i64 (p : Int)] W fun e w' => e = .returned (.tuple #[.int .i64 ((partition ltB dk x y p).1 : Int), .bool (partition ltB dk x y p).2.1]) ∧ Holds encB w' blk off (partition ltB dk x y p).2.2 ∧ OnlyAt blk W.heap.size W w'
theorem calleesN {n : Nat} (blk off cap : Nat) (hsz : n ≤ 1000000) : CalleesN n blk off cap where
  ins := fun W dk x y h1 h2 h3 h4 => by have := insertion_any blk off cap x y dk W h1 h3 (by omega) (by omega); rwa [h2] at this
  heap := fun W dk x y h1 h2 h3 h4 => by have := heap_any blk off cap x y dk W h1 h3 (by omega) (by omega); rwa [h2] at this
  brk := fun W dk x y h1 h2 h3 h4 h5 => by have := break_any blk off cap x y dk W h1 h3 h4 (by omega) (by omega); rwa [h2] at this
  piv := fun W dk x y h1 h2 h3 h4 h5 => by have := choose_any blk off cap x y dk W h1 h3 h4 (by omega) (by omega); rwa [h2] at this
  rev := fun W dk x y h1 h2 h3 h4 => by have := reverse_any blk off cap x y dk W h1 h3 (by omega) (by omega); rwa [h2] at this
  pin := fun W dk x y h1 h2 h3 h4 => by have := partial_any blk off cap x y dk W h1 h3 (by omega) (by omega); rwa [h2] at this
  peq := fun W dk x y p h1 h2 h3 h4 h5 => by have := partEq_any blk off cap x y p dk W h1 h3 h4 (by omega) (by omega); rwa [h2] at this
  prt := fun W dk x y p h1 h2 h3 h4 h5 => by have := part_any blk off cap x y p dk W h1 h3 h4 (by omega) (by omega); rwa [h2] at this

/-- slices.pdqsortOrdered, of fewer than m bytes. -/
def PdqN (m n blk off cap : Nat) : Prop := ∀ (W : World) (dk : Array UInt8) (x y l : Nat), y - x < m → Holds encB W blk off dk → dk.size = n → blk < W.heap.size → x ≤ y → y ≤ n → l ≤ 1000000 → Go.Sort.Below ltB x y dk →
  Calls Try.prog 65 #[.slice (some ⟨blk, off, none⟩) n cap, .int .i64 (x : Int), .int .i64 (y : Int), .int .i64 (l : Int)] W fun e w' => e = .returned (.tuple #[]) ∧ Holds encB w' blk off (pdq ltB dk x y l true true) ∧ OnlyAt blk W.heap.size W w'
end Go.Proofs.Ytchobpfdmkgnoaa
