/-
  What is proved: outlawlaw07.GlobNames returns true: the examples of the chapter have the results that it states; normal forms. No conditions.
-/
import Derived.Test.YtnadpfmakehngaaGlLaw
import Derived.Test.YtnadpfmakehngaaGlText
import Derived.Test.YtnadpfmakehngaaRows
import Derived.ProofKit
import Derived.OpenShut
import Derived.ShutString
namespace Go.Proofs.Ytnadpfmakehngaa
open Go.RowKit

theorem norm_at (p r : ByteArray) (hp : p.size ≤ 1000000) (h : str (normL false p.data.toList) = r) (w : World) :
    Calls Try.prog 10 #[.string p] w fun e w' => e = .returned (.string r) ∧ Below w.heap.size w w' := by
  rw [← h]; exact norm_any p w hp
theorem least_at (p : ByteArray) (n : Int) (hp : p.size ≤ 1000000) (h : (least p.data.toList : Int) = n) (w : World) :
    Calls Try.prog 11 #[.string p] w fun e w' => e = .returned (.int .i64 n) ∧ w' = w := by
  rw [← h]; exact least_any p w hp
theorem check_at (p : ByteArray) (n : Int) (h : checkN p.size = n) (w : World) :
    Calls Try.prog 12 #[.string p] w fun e w' => e = .returned (.int .i64 n) ∧ w' = w := by
  rw [← h]; exact check_any p w
theorem fold_at (p r : ByteArray) (hp : p.size ≤ 1000000) (h : str (foldL p.data.toList) = r) (w : World) :
    Calls Try.prog 14 #[.string p] w fun e w' => e = .returned (.string r) ∧ Below w.heap.size w w' := by
  rw [← h]; exact fold_any p w hp
theorem literal_at (p r : ByteArray) (b : Bool) (hp : p.size ≤ 1000000) (h1 : litS p = r) (h2 : litL p.data.toList = b) (w : World) :
    Calls Try.prog 8 #[.string p] w fun e w' => e = .returned (.tuple #[.string r, .bool b]) ∧ Below w.heap.size w w' := by
  rw [← h1, ← h2]; exact literal_any p w hp

set_option maxHeartbeats 4000000 in
theorem names_any (w : World) :
    Calls Try.prog 3 #[] w fun e w' => e = .returned (.bool true) ∧ Below w.heap.size w w' := by
  have A1 := Lib.hid (onto (w0 := w) (literal_at ⟨#[97, 98]⟩ ⟨#[97, 98]⟩ true (by decide) (by decide +kernel) (by decide +kernel)))
  have A2 := Lib.hid (onto (w0 := w) (literal_at ⟨#[97, 42]⟩ ⟨#[]⟩ false (by decide) (by decide +kernel) (by decide +kernel)))
  have A3 := Lib.hid (onto (w0 := w) lives_any)
  have A4 := Lib.hid (onto (w0 := w) (norm_at ⟨#[97, 42, 63, 42, 63, 98, 42, 42]⟩ ⟨#[97, 63, 63, 42, 98, 42]⟩ (by decide) (by decide +kernel)))
  have A5 := Lib.hid (least_at ⟨#[97, 42, 63, 42, 63, 98, 42, 42]⟩ 4 (by decide) (by decide +kernel))
  have A6 := Lib.hid (check_at ⟨#[]⟩ 2 (by decide +kernel))
  have A7 := Lib.hid (check_at ⟨#[42]⟩ 0 (by decide +kernel))
  have A8 := Lib.hid (onto (w0 := w) (match_at ⟨#[]⟩ ⟨#[]⟩ false true (by decide) (by decide) (by decide +kernel)))
  have A9 := Lib.hid (onto (w0 := w) (match_at ⟨#[97]⟩ ⟨#[65]⟩ false false (by decide) (by decide) (by decide +kernel)))
  have A10 := Lib.hid (onto (w0 := w) (match_at ⟨#[97]⟩ ⟨#[65]⟩ true true (by decide) (by decide) (by decide +kernel)))
  have A11 := Lib.hid (onto (w0 := w) (fold_at ⟨#[65, 91, 122]⟩ ⟨#[97, 91, 122]⟩ (by decide) (by decide +kernel)))
  go_enter Try.func3, Try.ntmps3
  go_wp2_with fail
  refine (A1.out _ (Below.refl _ _)).mono ?_
  rintro e w1 ⟨rfl, b1⟩
  go_wp2_with fail
  refine (A2.out _ b1).mono ?_
  rintro e w2 ⟨rfl, b2⟩
  go_wp2_with fail
  refine (A3.out _ b2).mono ?_
  rintro e w3 ⟨rfl, b3⟩
  go_wp2_with fail
  refine (A4.out _ b3).mono ?_
  rintro e w4 ⟨rfl, b4⟩
  go_wp2_with fail
  refine (A5.out _).mono ?_
  rintro e w5 ⟨rfl, rfl⟩
  go_wp2_with fail
  refine (A6.out _).mono ?_
  rintro e w6 ⟨rfl, rfl⟩
  go_wp2_with fail
  refine (A7.out _).mono ?_
  rintro e w7 ⟨rfl, rfl⟩
  go_wp2_with fail
  refine (A8.out _ b4).mono ?_
  rintro e w8 ⟨rfl, b8⟩
  go_wp2_with fail
  refine (A9.out _ b8).mono ?_
  rintro e w9 ⟨rfl, b9⟩
  go_wp2_with fail
  refine (A10.out _ b9).mono ?_
  rintro e w10 ⟨rfl, b10⟩
  go_wp2_with fail
  refine (A11.out _ b10).mono ?_
  rintro e w11 ⟨rfl, b11⟩
  go_wp2
  go_ret
  exact ⟨rfl, b11⟩

open Go.ChangeShapes Go.WideShapes Go.ChangeAt
open Go.ChangeMaps (open_string shut_string)
theorem names_own : ownKnob Try.prog.godebug = none := by kernel_rfl

set_option maxRecDepth 100000 in
theorem names_lifted (os : Os) (started : os.Started) (H : Type) (enc : TypeId × Value → H) :
    ReturnsInHanded {} Try.checked os 3 .any (Rows.globNamesSpec.pre6 enc Try.prog Try.f3 Rows.globNamesRow.domain false) (Rows.globNamesSpec.post enc Try.prog Try.f3 false true false false) := by
  refine returnsInHanded_of_change (C := Try.checked) names_own started (by kernel_rfl) Try.func3
    (ChangeSpec.witness6 (enc := enc) (C := Try.checked) false ⟨#[], #[], []⟩ 8 (by kernel_rfl) (by kernel_rfl) (by kernel_rfl) (by kernel_rfl)) ?_
  intro W base args ds gs before hval0 hW hcnd _
  have hW' := hW
  obtain ⟨p, q, hA0, hV, rfl, hfz, hnd⟩ := hW
  have hA : DataW.TrodAll enc Try.prog W 0 (fun _ => true) true Try.f3.params.toList args.toList ds p := hA0
  rw [Try.params3] at hA
  obtain ⟨hargs, rfl, rfl⟩ := trodAll_nil hA
  obtain rfl : args = #[] := by cases args; simp_all
  obtain ⟨rfl, rfl⟩ := trodVars_none hV
  clear hA0 hval0
  simp only [List.append_nil] at hW'
  refine (names_any  W).mono fun e W' ⟨he, bel⟩ => ?_
  subst he
  exact ⟨_, rfl, _, _, _, [], _, [], hW', trodAll_mk1 (shut_bool Try.underlying4 _), trodAll_mk0, rfl, bel.frame _, fun h => by cases h⟩

/-- The statement. -/
theorem names_said : Rows.GlobNamesSaid :=
  OpenClaim.holds_of_wide 3 Try.f3 rfl rfl rfl rfl rfl rfl rfl ⟨rfl, rfl, rfl, rfl, rfl⟩ rfl rfl rfl rfl rfl (by kernel_rfl) Try.func3 (by kernel_rfl)
    (of_decide_eq_true (by kernel_rfl)) (by unfold Func.isWrapper; first | (rw [if_pos (by decide +kernel)]; kernel_rfl) | (rw [if_neg (by decide +kernel)]; exact ⟨rfl, rfl⟩))
    (fun os started H enc _ => names_lifted os started H enc)
#print axioms names_said
end Go.Proofs.Ytnadpfmakehngaa
