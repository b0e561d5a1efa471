/-
  What is proved: glob.Match at any two strings (of at most 1,000,000 bytes), and what the laws' helpers return: outlawlaw07.lives. What lay in memory before stands as it stood.
-/
import Derived.Test.YtinhihdceijfaaaGlMatch
namespace Go.Proofs.Ytinhihdceijfaaa
open Go.RowKit

theorem match_drew (p t : ByteArray) (f : Bool) (w : World) (hp : p.size ≤ 1000000) (ht : t.size ≤ 1000000) :
    Calls Try.prog 25 #[.string p, .string t, .bool f] w fun e w' => e = .returned (.bool (mt f p.data.toList t.data.toList)) ∧ Drew w w' := by
  cases f with
  | true => exact match_core p t true 53 w hp ht (fun w => equality_any true w) eq_enters1 same_fold
  | false => exact match_core p t false 55 w hp ht (fun w => equality_any false w) eq_enters2 same_plain

theorem match_any (p t : ByteArray) (f : Bool) (w : World) (hp : p.size ≤ 1000000) (ht : t.size ≤ 1000000) :
    Calls Try.prog 25 #[.string p, .string t, .bool f] w fun e w' => e = .returned (.bool (mt f p.data.toList t.data.toList)) ∧ Below w.heap.size w w' :=
  (match_drew p t f w hp ht).mono fun _ _ h => ⟨h.1, h.2.below⟩

theorem match_at (p t : ByteArray) (f b : Bool) (hp : p.size ≤ 1000000) (ht : t.size ≤ 1000000) (h : mt f p.data.toList t.data.toList = b) (w : World) :
    Calls Try.prog 25 #[.string p, .string t, .bool f] w fun e w' => e = .returned (.bool b) ∧ Below w.heap.size w w' := by
  rw [← h]; exact match_any p t f w hp ht

/-- A call's contract, told from an earlier world on. -/
theorem onto {f : Nat} {args : Array Value} {v : Ending} {w0 : World} (h : ∀ w, Calls Try.prog f args w fun e w' => e = v ∧ Below w.heap.size w w') :
    ∀ w1, Below w0.heap.size w0 w1 → Calls Try.prog f args w1 fun e w' => e = v ∧ Below w0.heap.size w0 w' := fun w1 hb => (h w1).mono fun _ _ ⟨he, b⟩ => ⟨he, hb.trans (b.mono hb.size)⟩

end Go.Proofs.Ytinhihdceijfaaa
