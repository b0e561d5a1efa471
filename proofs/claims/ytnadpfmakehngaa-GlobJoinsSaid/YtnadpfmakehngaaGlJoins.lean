/-
  What is proved: outlawlaw07.GlobJoins returns true for any two globs, three strings and a bool: what globs match one after the other they match concatenated, with a star in between whatever is there, with stars around wherever it is. No conditions.
-/
import Derived.Test.YtnadpfmakehngaaGlLight
import Derived.Test.YtnadpfmakehngaaRows
import Derived.ProofKit
import Derived.OpenShut
import Derived.ShutString
namespace Go.Proofs.Ytnadpfmakehngaa
open Go.RowKit

theorem app_data (a b : ByteArray) : (a ++ b).data.toList = a.data.toList ++ b.data.toList := by simp
theorem app_size (a b : ByteArray) : (a ++ b).size = a.size + b.size := by simp

theorem join1 (f : Bool) {p q s t : List UInt8} (h1 : mt f p s = true) (h2 : mt f q t = true) : mt f (p ++ q) (s ++ t) = true := (mt_app _ _ _ _).2 ⟨_, _, rfl, h1, h2⟩

set_option maxHeartbeats 4000000 in
theorem joins_core (p q s t b : ByteArray) (f : Bool) (w : World) (hl : lightB [p, q, s, t] = true) (hb : b.size ≤ 300) :
    Calls Try.prog 6 #[.string p, .string q, .string s, .string t, .string b, .bool f] w fun e w' => e = .returned (.bool true) ∧ Below w.heap.size w w' := by
  obtain ⟨hp, hq, hs, ht⟩ := light4_sizes hl
  have C0 := Lib.hid (lives_any w)
  have CL := Lib.hid (fun w => light4 p q s t w)
  rw [hl] at CL
  have g1 : decide ((300 : Int) < (b.size : Int)) = false := by simp; omega
  have z42 : (⟨#[42]⟩ : ByteArray).size = 1 := rfl
  obtain ⟨m1, e1⟩ : ∃ m, mt f p.data.toList s.data.toList = m := ⟨_, rfl⟩
  obtain ⟨m2, e2⟩ : ∃ m, mt f q.data.toList t.data.toList = m := ⟨_, rfl⟩
  have C1 := Lib.hid (onto (w0 := w) (match_at p s f m1 (by omega) (by omega) e1))
  have C2 := Lib.hid (onto (w0 := w) (match_at q t f m2 (by omega) (by omega) e2))
  have C3 := Lib.hid (fun (h1 : m1 = true) (h2 : m2 = true) => onto (w0 := w) (match_at (p ++ q) (s ++ t) f true (by simp only [app_size]; omega) (by simp only [app_size]; omega) (by rw [app_data, app_data]; exact join1 f (e1.trans h1) (e2.trans h2))))
  have C4 := Lib.hid (fun (h1 : m1 = true) (h2 : m2 = true) => onto (w0 := w) (match_at (p ++ ⟨#[42]⟩ ++ q) (s ++ b ++ t) f true (by simp only [app_size, z42]; omega) (by simp only [app_size]; omega) (by simp only [app_data]; exact join1 f (join1 f (e1.trans h1) (mt_any f _)) (e2.trans h2))))
  have C5 := Lib.hid (fun (h1 : m1 = true) => onto (w0 := w) (match_at (⟨#[42]⟩ ++ p ++ ⟨#[42]⟩) (b ++ s ++ t) f true (by simp only [app_size, z42]; omega) (by simp only [app_size]; omega) (by simp only [app_data]; exact join1 f (join1 f (mt_any f _) (e1.trans h1)) (mt_any f _))))
  clear e1 e2 hl
  cases m1 with
  | false =>
    clear C3 C4 C5
    go_enter Try.func6, Try.ntmps6
    go_wp2_with (go_at_call 9; refine C0.out.mono ?_; rintro e w1 ⟨rfl, b1⟩)
    refine (CL.out _).mono ?_
    rintro e w2 ⟨rfl, b2⟩
    replace b2 := b1.trans (b2.mono b1.size)
    clear b1
    go_wp2_with fail
    refine (C1.out _ b2).mono ?_
    rintro e w3 ⟨rfl, b3⟩
    go_wp2_with fail
    refine (C1.out _ b3).mono ?_
    rintro e w4 ⟨rfl, b4⟩
    go_wp2
    go_ret
    exact ⟨rfl, b4⟩
  | true =>
    replace C3 := Lib.hid (C3.out rfl)
    replace C4 := Lib.hid (C4.out rfl)
    replace C5 := Lib.hid (C5.out rfl)
    cases m2 with
    | false =>
      clear C3 C4
      go_enter Try.func6, Try.ntmps6
      go_wp2_with (go_at_call 9; refine C0.out.mono ?_; rintro e w1 ⟨rfl, b1⟩)
      refine (CL.out _).mono ?_
      rintro e w2 ⟨rfl, b2⟩
      replace b2 := b1.trans (b2.mono b1.size)
      clear b1
      go_wp2_with fail
      refine (C1.out _ b2).mono ?_
      rintro e w3 ⟨rfl, b3⟩
      go_wp2_with fail
      refine (C2.out _ b3).mono ?_
      rintro e w4 ⟨rfl, b4⟩
      go_wp2_with fail
      refine (C1.out _ b4).mono ?_
      rintro e w5 ⟨rfl, b5⟩
      go_wp2_with fail
      refine (C5.out _ b5).mono ?_
      rintro e w6 ⟨rfl, b6⟩
      go_wp2
      go_ret
      exact ⟨rfl, b6⟩
    | true =>
      replace C3 := Lib.hid (C3.out rfl)
      replace C4 := Lib.hid (C4.out rfl)
      go_enter Try.func6, Try.ntmps6
      go_wp2_with (go_at_call 9; refine C0.out.mono ?_; rintro e w1 ⟨rfl, b1⟩)
      refine (CL.out _).mono ?_
      rintro e w2 ⟨rfl, b2⟩
      replace b2 := b1.trans (b2.mono b1.size)
      clear b1
      go_wp2_with fail
      refine (C1.out _ b2).mono ?_
      rintro e w3 ⟨rfl, b3⟩
      go_wp2_with fail
      refine (C2.out _ b3).mono ?_
      rintro e w4 ⟨rfl, b4⟩
      go_wp2_with fail
      refine (C3.out _ b4).mono ?_
      rintro e w5 ⟨rfl, b5⟩
      go_wp2_with fail
      refine (C4.out _ b5).mono ?_
      rintro e w6 ⟨rfl, b6⟩
      go_wp2_with fail
      refine (C1.out _ b6).mono ?_
      rintro e w7 ⟨rfl, b7⟩
      go_wp2_with fail
      refine (C5.out _ b7).mono ?_
      rintro e w8 ⟨rfl, b8⟩
      go_wp2
      go_ret
      exact ⟨rfl, b8⟩

set_option maxHeartbeats 1000000 in
theorem joins_skip (p q s t b : ByteArray) (f : Bool) (w : World) (h : lightB [p, q, s, t] = false ∨ (lightB [p, q, s, t] = true ∧ 300 < b.size)) :
    Calls Try.prog 6 #[.string p, .string q, .string s, .string t, .string b, .bool f] w fun e w' => e = .returned (.bool true) ∧ Below w.heap.size w w' := by
  have C0 := Lib.hid (lives_any w)
  have CL := Lib.hid (fun w => light4 p q s t w)
  rcases h with h | ⟨h, h2⟩
  · rw [h] at CL
    clear h
    go_enter Try.func6, Try.ntmps6
    go_wp2_with (go_at_call 9; refine C0.out.mono ?_; rintro e w1 ⟨rfl, b1⟩)
    refine (CL.out _).mono ?_
    rintro e w2 ⟨rfl, b2⟩
    replace b2 := b1.trans (b2.mono b1.size)
    go_wp2
    go_ret
    exact ⟨rfl, b2⟩
  · rw [h] at CL
    have g1 : decide ((300 : Int) < (b.size : Int)) = true := by simp; omega
    clear h h2
    go_enter Try.func6, Try.ntmps6
    go_wp2_with (go_at_call 9; refine C0.out.mono ?_; rintro e w1 ⟨rfl, b1⟩)
    refine (CL.out _).mono ?_
    rintro e w2 ⟨rfl, b2⟩
    replace b2 := b1.trans (b2.mono b1.size)
    go_wp2
    go_ret
    exact ⟨rfl, b2⟩

/-- The law, for every input. -/
theorem joins_any (p q s t b : ByteArray) (f : Bool) (w : World) :
    Calls Try.prog 6 #[.string p, .string q, .string s, .string t, .string b, .bool f] w fun e w' => e = .returned (.bool true) ∧ Below w.heap.size w w' := by
  cases h : lightB [p, q, s, t] with
  | false => exact joins_skip p q s t b f w (.inl h)
  | true =>
    by_cases h2 : b.size ≤ 300
    · exact joins_core p q s t b f w h h2
    · exact joins_skip p q s t b f w (.inr ⟨h, by omega⟩)

open Go.ChangeShapes Go.WideShapes Go.ChangeAt
open Go.ChangeMaps (open_string shut_string)
theorem joins_own : ownKnob Try.prog.godebug = none := by kernel_rfl

set_option maxRecDepth 100000 in
theorem joins_lifted (os : Os) (started : os.Started) (H : Type) (enc : TypeId × Value → H) :
    ReturnsInHanded {} Try.checked os 6 .any (Rows.globJoinsSpec.pre6 enc Try.prog Try.f6 Rows.globJoinsRow.domain false) (Rows.globJoinsSpec.post enc Try.prog Try.f6 false true false false) := by
  refine returnsInHanded_of_change (C := Try.checked) joins_own started (by kernel_rfl) Try.func6
    (ChangeSpec.witness6 (enc := enc) (C := Try.checked) false ⟨#[], #[.string ByteArray.empty, .string ByteArray.empty, .string ByteArray.empty, .string ByteArray.empty, .string ByteArray.empty, .bool false], []⟩ 8 (by kernel_rfl) (by kernel_rfl) (by kernel_rfl) (by kernel_rfl)) ?_
  intro W base args ds gs before hval0 hW hcnd _
  have hval : ∀ (j : Nat) t v, Try.f6.params[j]? = some t → args[j]? = some v → Value.okWide Try.prog W .any base t v := hval0
  have hW' := hW
  obtain ⟨p, q, hA0, hV, rfl, hfz, hnd⟩ := hW
  have hA : DataW.TrodAll enc Try.prog W 0 (fun _ => true) true Try.f6.params.toList args.toList ds p := hA0
  rw [Try.params6] at hA hval
  obtain ⟨v0, vs0, d0, ds0, p0, q0, hargs, rfl, rfl, h0, r0⟩ := trodAll_cons hA
  obtain ⟨v1, vs1, d1, ds1, p1, q1, rfl, rfl, rfl, h1, r1⟩ := trodAll_cons r0
  obtain ⟨v2, vs2, d2, ds2, p2, q2, rfl, rfl, rfl, h2, r2⟩ := trodAll_cons r1
  obtain ⟨v3, vs3, d3, ds3, p3, q3, rfl, rfl, rfl, h3, r3⟩ := trodAll_cons r2
  obtain ⟨v4, vs4, d4, ds4, p4, q4, rfl, rfl, rfl, h4, r4⟩ := trodAll_cons r3
  obtain ⟨v5, vs5, d5, ds5, p5, q5, rfl, rfl, rfl, h5, r5⟩ := trodAll_cons r4
  obtain ⟨rfl, rfl, rfl⟩ := trodAll_nil r5
  obtain rfl : args = #[v0, v1, v2, v3, v4, v5] := by cases args; simp_all
  obtain ⟨rfl, rfl⟩ := trodVars_none hV
  obtain ⟨a0, rfl, rfl, rfl, w0⟩ := open_string Try.underlying9 (hval 0 9 v0 rfl rfl) h0
  obtain ⟨a1, rfl, rfl, rfl, w1⟩ := open_string Try.underlying9 (hval 1 9 v1 rfl rfl) h1
  obtain ⟨a2, rfl, rfl, rfl, w2⟩ := open_string Try.underlying9 (hval 2 9 v2 rfl rfl) h2
  obtain ⟨a3, rfl, rfl, rfl, w3⟩ := open_string Try.underlying9 (hval 3 9 v3 rfl rfl) h3
  obtain ⟨a4, rfl, rfl, rfl, w4⟩ := open_string Try.underlying9 (hval 4 9 v4 rfl rfl) h4
  obtain ⟨a5, rfl, rfl, rfl⟩ := open_bool Try.underlying4 (hval 5 4 v5 rfl rfl) h5
  clear hA0 hval0
  simp only [List.append_nil] at hW'
  refine (joins_any a0 a1 a2 a3 a4 a5 W).mono fun e W' ⟨he, bel⟩ => ?_
  subst he
  exact ⟨_, rfl, _, _, _, [], _, [], hW', trodAll_mk1 (shut_bool Try.underlying4 _), (trodAll_cons_mk (shut_string Try.underlying9 w0) (trodAll_cons_mk (shut_string Try.underlying9 w1) (trodAll_cons_mk (shut_string Try.underlying9 w2) (trodAll_cons_mk (shut_string Try.underlying9 w3) (trodAll_cons_mk (shut_string Try.underlying9 w4) (trodAll_cons_mk (shut_bool Try.underlying4 _) trodAll_mk0)))))), rfl, bel.frame _, fun h => by cases h⟩

/-- The statement. -/
theorem joins_said : Rows.GlobJoinsSaid :=
  OpenClaim.holds_of_wide 6 Try.f6 rfl rfl rfl rfl rfl rfl rfl ⟨rfl, rfl, rfl, rfl, rfl⟩ rfl rfl rfl rfl rfl (by kernel_rfl) Try.func6 (by kernel_rfl)
    (of_decide_eq_true (by kernel_rfl)) (by unfold Func.isWrapper; first | (rw [if_pos (by decide +kernel)]; kernel_rfl) | (rw [if_neg (by decide +kernel)]; exact ⟨rfl, rfl⟩))
    (fun os started H enc _ => joins_lifted os started H enc)
#print axioms joins_said
end Go.Proofs.Ytnadpfmakehngaa
