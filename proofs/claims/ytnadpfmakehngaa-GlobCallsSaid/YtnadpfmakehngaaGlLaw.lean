/-
  What is proved: glob.Match at any two strings (of at most 1,000,000 bytes), and what the laws' helpers return: outlawlaw07.lives. What lay in memory before stands as it stood.
-/
import Derived.Test.YtnadpfmakehngaaGlMatch
namespace Go.Proofs.Ytnadpfmakehngaa
open Go.RowKit

theorem match_any (p t : ByteArray) (f : Bool) (w : World) (hp : p.size ≤ 1000000) (ht : t.size ≤ 1000000) :
    Calls Try.prog 13 #[.string p, .string t, .bool f] w fun e w' => e = .returned (.bool (mt f p.data.toList t.data.toList)) ∧ Below w.heap.size w w' := by
  cases f with
  | true => exact match_core p t true 38 w hp ht (fun w => equality_any true w) eq_enters1 same_fold
  | false => exact match_core p t false 39 w hp ht (fun w => equality_any false w) eq_enters2 same_plain

theorem match_at (p t : ByteArray) (f b : Bool) (hp : p.size ≤ 1000000) (ht : t.size ≤ 1000000) (h : mt f p.data.toList t.data.toList = b) (w : World) :
    Calls Try.prog 13 #[.string p, .string t, .bool f] w fun e w' => e = .returned (.bool b) ∧ Below w.heap.size w w' := by
  rw [← h]; exact match_any p t f w hp ht

/-- A call's contract, told from an earlier world on. -/
theorem onto {f : Nat} {args : Array Value} {v : Ending} {w0 : World} (h : ∀ w, Calls Try.prog f args w fun e w' => e = v ∧ Below w.heap.size w w') :
    ∀ w1, Below w0.heap.size w0 w1 → Calls Try.prog f args w1 fun e w' => e = v ∧ Below w0.heap.size w0 w' := fun w1 hb => (h w1).mono fun _ _ ⟨he, b⟩ => ⟨he, hb.trans (b.mono hb.size)⟩

theorem lives_any (w : World) :
    Calls Try.prog 9 #[] w fun e w' => e = .returned (.bool true) ∧ Below w.heap.size w w' := by
  have C1 := Lib.hid (onto (w0 := w) (match_at ⟨#[64, 42, 58, 120, 46, 111, 114, 103]⟩ ⟨#[64, 97, 58, 120, 46, 111, 114, 103]⟩ false true (by decide) (by decide) (by decide +kernel)))
  have C2 := Lib.hid (onto (w0 := w) (match_at ⟨#[97, 63, 99]⟩ ⟨#[97, 99]⟩ false false (by decide) (by decide) (by decide +kernel)))
  have C3 := Lib.hid (onto (w0 := w) (match_at ⟨#[63, 42, 63]⟩ ⟨#[97, 98]⟩ false true (by decide) (by decide) (by decide +kernel)))
  go_enter Try.func9, Try.ntmps9
  go_wp2_with fail
  refine (C1.out _ (Below.refl _ _)).mono ?_
  rintro e w1 ⟨rfl, b1⟩
  go_wp2_with fail
  refine (C2.out w1 b1).mono ?_
  rintro e w2 ⟨rfl, b2⟩
  go_wp2_with fail
  refine (C3.out w2 b2).mono ?_
  rintro e w3 ⟨rfl, b3⟩
  go_wp2
  go_ret
  exact ⟨rfl, b3⟩
end Go.Proofs.Ytnadpfmakehngaa
