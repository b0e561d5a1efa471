/-
  What is proved: outlawlaw07.GlobCalls returns true for any glob, string and bool: what a glob matches, its normal form, and the rest, are what the document's own answers (package outlawref07) say. No conditions.
-/
import Derived.Test.YtnadpfmakehngaaGlLight
import Derived.Test.YtnadpfmakehngaaGlText
import Derived.Test.YtnadpfmakehngaaGlRefN
import Derived.Test.YtnadpfmakehngaaGlRefM
import Derived.Test.YtnadpfmakehngaaRows
import Derived.ProofKit
import Derived.OpenShut
import Derived.ShutString
namespace Go.Proofs.Ytnadpfmakehngaa
open Go.RowKit

set_option maxHeartbeats 8000000 in
set_option maxRecDepth 1000000 in
theorem calls_core (p t n s ft : ByteArray) (f m is : Bool) (ck lp : Int) (w : World) (hl : lightB [p, t] = true)
    (c1 : ∀ w, Calls Try.prog 8 #[.string p] w fun e w' => e = .returned (.tuple #[.string s, .bool is]) ∧ Below w.heap.size w w')
    (c2 : ∀ w, Calls Try.prog 16 #[.string p] w fun e w' => e = .returned (.tuple #[.string s, .bool is]) ∧ w' = w)
    (c3 : ∀ w, Calls Try.prog 12 #[.string p] w fun e w' => e = .returned (.int .i64 ck) ∧ w' = w)
    (c4 : ∀ w, Calls Try.prog 17 #[.string p] w fun e w' => e = .returned (.int .i64 ck) ∧ w' = w)
    (c5 : ∀ w, Calls Try.prog 13 #[.string p, .string t, .bool f] w fun e w' => e = .returned (.bool m) ∧ Below w.heap.size w w')
    (c6 : ∀ w, Calls Try.prog 18 #[.string p, .string t, .bool f] w fun e w' => e = .returned (.bool m) ∧ Below w.heap.size w w')
    (c7 : ∀ w, Calls Try.prog 10 #[.string p] w fun e w' => e = .returned (.string n) ∧ Below w.heap.size w w')
    (c8 : ∀ w, Calls Try.prog 19 #[.string p] w fun e w' => e = .returned (.string n) ∧ Below w.heap.size w w')
    (c9 : ∀ w, Calls Try.prog 11 #[.string p] w fun e w' => e = .returned (.int .i64 lp) ∧ w' = w)
    (c10 : ∀ w, Calls Try.prog 20 #[.string p] w fun e w' => e = .returned (.int .i64 lp) ∧ w' = w)
    (c11 : ∀ w, Calls Try.prog 14 #[.string t] w fun e w' => e = .returned (.string ft) ∧ Below w.heap.size w w')
    (c12 : ∀ w, Calls Try.prog 21 #[.string t] w fun e w' => e = .returned (.string ft) ∧ Below w.heap.size w w') :
    Calls Try.prog 4 #[.string p, .string t, .bool f] w fun e w' => e = .returned (.bool true) ∧ Below w.heap.size w w' := by
  have C0 := Lib.hid (lives_any w)
  have CL := Lib.hid (fun w => light2 p t w)
  rw [hl] at CL
  have C1 := Lib.hid (onto (w0 := w) c1)
  have C2 := Lib.hid c2
  have C3 := Lib.hid c3
  have C4 := Lib.hid c4
  have C5 := Lib.hid (onto (w0 := w) c5)
  have C6 := Lib.hid (onto (w0 := w) c6)
  have C7 := Lib.hid (onto (w0 := w) c7)
  have C8 := Lib.hid (onto (w0 := w) c8)
  have C9 := Lib.hid c9
  have C10 := Lib.hid c10
  have C11 := Lib.hid (onto (w0 := w) c11)
  have C12 := Lib.hid (onto (w0 := w) c12)
  clear c1 c2 c3 c4 c5 c6 c7 c8 c9 c10 c11 c12 hl
  go_enter Try.func4, Try.ntmps4
  go_wp2_with (go_at_call 9; refine C0.out.mono ?_; rintro e w1 ⟨rfl, b1⟩)
  refine (CL.out _).mono ?_
  rintro e w2 ⟨rfl, b2⟩
  replace b2 := b1.trans (b2.mono b1.size)
  clear b1
  go_wp2_with fail
  refine (C1.out _ b2).mono ?_
  rintro e w3 ⟨rfl, b3⟩
  go_wp2_with fail
  refine (C2.out _).mono ?_
  rintro e w4 ⟨rfl, rfl⟩
  go_wp2_with fail
  refine (C3.out _).mono ?_
  rintro e w5 ⟨rfl, rfl⟩
  go_wp2_with fail
  refine (C4.out _).mono ?_
  rintro e w6 ⟨rfl, rfl⟩
  go_wp2_with fail
  refine (C5.out _ b3).mono ?_
  rintro e w7 ⟨rfl, b7⟩
  go_wp2_with fail
  refine (C6.out _ b7).mono ?_
  rintro e w8 ⟨rfl, b8⟩
  go_wp2_with fail
  refine (C7.out _ b8).mono ?_
  rintro e w9 ⟨rfl, b9⟩
  go_wp2_with fail
  refine (C8.out _ b9).mono ?_
  rintro e w10 ⟨rfl, b10⟩
  go_wp2_with fail
  refine (C9.out _).mono ?_
  rintro e w11 ⟨rfl, rfl⟩
  go_wp2_with fail
  refine (C10.out _).mono ?_
  rintro e w12 ⟨rfl, rfl⟩
  go_wp2_with fail
  refine (C11.out _ b10).mono ?_
  rintro e w13 ⟨rfl, b13⟩
  go_wp2_with fail
  refine (C12.out _ b13).mono ?_
  rintro e w14 ⟨rfl, b14⟩
  go_wp2
  go_ret
  exact ⟨rfl, b14⟩

set_option maxHeartbeats 1000000 in
theorem calls_skip (p t : ByteArray) (f : Bool) (w : World) (h : lightB [p, t] = false) :
    Calls Try.prog 4 #[.string p, .string t, .bool f] w fun e w' => e = .returned (.bool true) ∧ Below w.heap.size w w' := by
  have C0 := Lib.hid (lives_any w)
  have CL := Lib.hid (fun w => light2 p t w)
  rw [h] at CL
  clear h
  go_enter Try.func4, Try.ntmps4
  go_wp2_with (go_at_call 9; refine C0.out.mono ?_; rintro e w1 ⟨rfl, b1⟩)
  refine (CL.out _).mono ?_
  rintro e w2 ⟨rfl, b2⟩
  replace b2 := b1.trans (b2.mono b1.size)
  go_wp2
  go_ret
  exact ⟨rfl, b2⟩

/-- The law, for every input. -/
theorem calls_any (p t : ByteArray) (f : Bool) (w : World) :
    Calls Try.prog 4 #[.string p, .string t, .bool f] w fun e w' => e = .returned (.bool true) ∧ Below w.heap.size w w' := by
  cases h : lightB [p, t] with
  | false => exact calls_skip p t f w h
  | true =>
    obtain ⟨hp, ht⟩ := light2_sizes h
    exact calls_core p t _ _ _ f _ _ _ _ w h (fun w => literal_any p w (by omega)) (fun w => refLiteral p w (by omega)) (fun w => check_any p w) (fun w => refCheck p w) (fun w => match_any p t f w (by omega) (by omega)) (fun w => refMatch p t f w (by omega) (by omega)) (fun w => norm_any p w (by omega)) (fun w => refNorm p w (by omega)) (fun w => least_any p w (by omega)) (fun w => refLeast p w (by omega)) (fun w => fold_any t w (by omega)) (fun w => refFold t w (by omega))

open Go.ChangeShapes Go.WideShapes Go.ChangeAt
open Go.ChangeMaps (open_string shut_string)
theorem calls_own : ownKnob Try.prog.godebug = none := by kernel_rfl

set_option maxRecDepth 100000 in
theorem calls_lifted (os : Os) (started : os.Started) (H : Type) (enc : TypeId × Value → H) :
    ReturnsInHanded {} Try.checked os 4 .any (Rows.globCallsSpec.pre6 enc Try.prog Try.f4 Rows.globCallsRow.domain false) (Rows.globCallsSpec.post enc Try.prog Try.f4 false true false false) := by
  refine returnsInHanded_of_change (C := Try.checked) calls_own started (by kernel_rfl) Try.func4
    (ChangeSpec.witness6 (enc := enc) (C := Try.checked) false ⟨#[], #[.string ByteArray.empty, .string ByteArray.empty, .bool false], []⟩ 8 (by kernel_rfl) (by kernel_rfl) (by kernel_rfl) (by kernel_rfl)) ?_
  intro W base args ds gs before hval0 hW hcnd _
  have hval : ∀ (j : Nat) t v, Try.f4.params[j]? = some t → args[j]? = some v → Value.okWide Try.prog W .any base t v := hval0
  have hW' := hW
  obtain ⟨p, q, hA0, hV, rfl, hfz, hnd⟩ := hW
  have hA : DataW.TrodAll enc Try.prog W 0 (fun _ => true) true Try.f4.params.toList args.toList ds p := hA0
  rw [Try.params4] at hA hval
  obtain ⟨v0, vs0, d0, ds0, p0, q0, hargs, rfl, rfl, h0, r0⟩ := trodAll_cons hA
  obtain ⟨v1, vs1, d1, ds1, p1, q1, rfl, rfl, rfl, h1, r1⟩ := trodAll_cons r0
  obtain ⟨v2, vs2, d2, ds2, p2, q2, rfl, rfl, rfl, h2, r2⟩ := trodAll_cons r1
  obtain ⟨rfl, rfl, rfl⟩ := trodAll_nil r2
  obtain rfl : args = #[v0, v1, v2] := by cases args; simp_all
  obtain ⟨rfl, rfl⟩ := trodVars_none hV
  obtain ⟨a0, rfl, rfl, rfl, w0⟩ := open_string Try.underlying9 (hval 0 9 v0 rfl rfl) h0
  obtain ⟨a1, rfl, rfl, rfl, w1⟩ := open_string Try.underlying9 (hval 1 9 v1 rfl rfl) h1
  obtain ⟨a2, rfl, rfl, rfl⟩ := open_bool Try.underlying4 (hval 2 4 v2 rfl rfl) h2
  clear hA0 hval0
  simp only [List.append_nil] at hW'
  refine (calls_any a0 a1 a2 W).mono fun e W' ⟨he, bel⟩ => ?_
  subst he
  exact ⟨_, rfl, _, _, _, [], _, [], hW', trodAll_mk1 (shut_bool Try.underlying4 _), (trodAll_cons_mk (shut_string Try.underlying9 w0) (trodAll_cons_mk (shut_string Try.underlying9 w1) (trodAll_cons_mk (shut_bool Try.underlying4 _) trodAll_mk0))), rfl, bel.frame _, fun h => by cases h⟩

/-- The statement. -/
theorem calls_said : Rows.GlobCallsSaid :=
  OpenClaim.holds_of_wide 4 Try.f4 rfl rfl rfl rfl rfl rfl rfl ⟨rfl, rfl, rfl, rfl, rfl⟩ rfl rfl rfl rfl rfl (by kernel_rfl) Try.func4 (by kernel_rfl)
    (of_decide_eq_true (by kernel_rfl)) (by unfold Func.isWrapper; first | (rw [if_pos (by decide +kernel)]; kernel_rfl) | (rw [if_neg (by decide +kernel)]; exact ⟨rfl, rfl⟩))
    (fun os started H enc _ => calls_lifted os started H enc)
#print axioms calls_said
end Go.Proofs.Ytnadpfmakehngaa
