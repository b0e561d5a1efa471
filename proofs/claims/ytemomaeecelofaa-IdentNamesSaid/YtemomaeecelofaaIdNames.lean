/-
  What is proved: outlawlaw04.IdentNames returns true: the examples of the chapter have the results that it states. No conditions.
-/
import Derived.Test.YtemomaeecelofaaIdKinds
import Derived.Test.YtemomaeecelofaaRows
import Derived.ProofKit
import Derived.OpenShut
import Derived.ShutString
namespace Go.Proofs.Ytemomaeecelofaa
open Go.RowKit

theorem kind_at (s : ByteArray) (n : Int) (hs : s.size ≤ 1000000) (h : (kindL s.data.toList : Int) = n) (w : World) :
    Calls Try.prog 9 #[.string s] w fun e w' => e = .returned (.int .i64 n) ∧ Below w.heap.size w w' := by
  rw [← h]; exact kind_any s w hs
theorem server_at (s : ByteArray) (b : Bool) (hs : s.size ≤ 1000000) (h : srvL s.data.toList = b) (w : World) :
    Calls Try.prog 10 #[.string s] w fun e w' => e = .returned (.bool b) ∧ Below w.heap.size w w' := by
  rw [← h]; exact server_any s w hs
theorem lower_at (s r : ByteArray) (hs : s.size ≤ 1000000) (h : str (lowerL s.data.toList) = r) (w : World) :
    Calls Try.prog 11 #[.string s] w fun e w' => e = .returned (.string r) ∧ Below w.heap.size w w' := by
  rw [← h]; exact lower_any s w hs

set_option maxHeartbeats 1000000 in
theorem names_any (w : World) :
    Calls Try.prog 3 #[] w fun e w' => e = .returned (.bool true) ∧ Below w.heap.size w w' := by
  have C0 := Lib.hid (lives_any w)
  have K1 := Lib.hid (kind_at ⟨#[64, 97, 58, 66, 46, 111, 114, 103]⟩ 1 (by decide) (by decide +kernel))
  have K2 := Lib.hid (kind_at ⟨#[36, 101]⟩ 3 (by decide) (by decide +kernel))
  have K3 := Lib.hid (kind_at ⟨#[120, 46, 111, 114, 103]⟩ 4 (by decide) (by decide +kernel))
  have K4 := Lib.hid (kind_at ⟨#[64, 65, 58, 98]⟩ 0 (by decide) (by decide +kernel))
  have K5 := Lib.hid (kind_at ⟨#[64, 97, 58]⟩ 0 (by decide) (by decide +kernel))
  have K6 := Lib.hid (kind_at ⟨#[]⟩ 0 (by decide) (by decide +kernel))
  have S1 := Lib.hid (server_at ⟨#[120, 58, 48, 48, 48, 48, 49]⟩ true (by decide) (by decide +kernel))
  have S2 := Lib.hid (server_at ⟨#[120, 58]⟩ false (by decide) (by decide +kernel))
  have S3 := Lib.hid (server_at ⟨#[120, 58, 49, 50, 51, 52, 53, 54]⟩ false (by decide) (by decide +kernel))
  have L1 := Lib.hid (lower_at ⟨#[65, 46, 98, 45, 90, 91]⟩ ⟨#[97, 46, 98, 45, 122, 91]⟩ (by decide) (by decide +kernel))
  go_enter Try.func3, Try.ntmps3
  go_wp2_with (go_at_call 8; refine C0.out.mono ?_; rintro e w1 ⟨rfl, b1⟩)
  refine (K1.out w1).mono ?_
  rintro e w2 ⟨rfl, b2⟩
  replace b2 := b1.trans (b2.mono b1.size)
  clear b1
  go_wp2_with fail
  refine (K2.out w2).mono ?_
  rintro e w1 ⟨rfl, b1⟩
  replace b1 := b2.trans (b1.mono b2.size)
  clear b2
  go_wp2_with fail
  refine (K3.out w1).mono ?_
  rintro e w2 ⟨rfl, b2⟩
  replace b2 := b1.trans (b2.mono b1.size)
  clear b1
  go_wp2_with fail
  refine (K4.out w2).mono ?_
  rintro e w1 ⟨rfl, b1⟩
  replace b1 := b2.trans (b1.mono b2.size)
  clear b2
  go_wp2_with fail
  refine (K5.out w1).mono ?_
  rintro e w2 ⟨rfl, b2⟩
  replace b2 := b1.trans (b2.mono b1.size)
  clear b1
  go_wp2_with fail
  refine (K6.out w2).mono ?_
  rintro e w1 ⟨rfl, b1⟩
  replace b1 := b2.trans (b1.mono b2.size)
  clear b2
  go_wp2_with fail
  refine (S1.out w1).mono ?_
  rintro e w2 ⟨rfl, b2⟩
  replace b2 := b1.trans (b2.mono b1.size)
  clear b1
  go_wp2_with fail
  refine (S2.out w2).mono ?_
  rintro e w1 ⟨rfl, b1⟩
  replace b1 := b2.trans (b1.mono b2.size)
  clear b2
  go_wp2_with fail
  refine (S3.out w1).mono ?_
  rintro e w2 ⟨rfl, b2⟩
  replace b2 := b1.trans (b2.mono b1.size)
  clear b1
  go_wp2_with fail
  refine (L1.out w2).mono ?_
  rintro e w1 ⟨rfl, b1⟩
  replace b1 := b2.trans (b1.mono b2.size)
  clear b2
  go_wp2
  go_ret
  exact ⟨rfl, b1⟩

open Go.ChangeShapes Go.WideShapes Go.ChangeAt
open Go.ChangeMaps (open_string shut_string)
theorem own : ownKnob Try.prog.godebug = none := by kernel_rfl

set_option maxRecDepth 100000 in
theorem names_lifted (os : Os) (started : os.Started) (H : Type) (enc : TypeId × Value → H) :
    ReturnsInHanded {} Try.checked os 3 .any (Rows.identNamesSpec.pre6 enc Try.prog Try.f3 Rows.identNamesRow.domain false) (Rows.identNamesSpec.post enc Try.prog Try.f3 false true false false) := by
  refine returnsInHanded_of_change (C := Try.checked) own started (by kernel_rfl) Try.func3
    (ChangeSpec.witness6 (enc := enc) (C := Try.checked) false ⟨#[], #[], []⟩ 8 (by kernel_rfl) (by kernel_rfl) (by kernel_rfl) (by kernel_rfl)) ?_
  intro W base args ds gs before hval0 hW hcnd _
  have hW' := hW
  obtain ⟨p, q, hA0, hV, rfl, hfz, hnd⟩ := hW
  have hA : DataW.TrodAll enc Try.prog W 0 (fun _ => true) true Try.f3.params.toList args.toList ds p := hA0
  rw [Try.params3] at hA
  obtain ⟨hargs, rfl, rfl⟩ := trodAll_nil hA
  obtain rfl : args = #[] := by cases args; simp_all
  obtain ⟨rfl, rfl⟩ := trodVars_none hV
  clear hA0 hval0
  simp only [List.append_nil] at hW'
  refine (names_any W).mono fun e W' ⟨he, bel⟩ => ?_
  subst he
  exact ⟨_, rfl, _, _, _, [], _, [], hW', trodAll_mk1 (shut_bool Try.underlying4 _), trodAll_mk0, rfl, bel.frame _, fun h => by cases h⟩

/-- The statement. -/
theorem names_said : Rows.IdentNamesSaid :=
  OpenClaim.holds_of_wide 3 Try.f3 rfl rfl rfl rfl rfl rfl rfl ⟨rfl, rfl, rfl, rfl, rfl⟩ rfl rfl rfl rfl rfl (by kernel_rfl) Try.func3 (by kernel_rfl)
    (of_decide_eq_true (by kernel_rfl)) (by unfold Func.isWrapper; first | (rw [if_pos (by decide +kernel)]; kernel_rfl) | (rw [if_neg (by decide +kernel)]; exact ⟨rfl, rfl⟩))
    (fun os started H enc _ => names_lifted os started H enc)
#print axioms names_said
end Go.Proofs.Ytemomaeecelofaa
