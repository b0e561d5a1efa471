/-
  What is proved: outlawlaw07.GlobSplits returns true for any two globs, a string and a bool: a concatenation matches exactly what can be split into what each of the two matches. No conditions.
-/
import Derived.Test.YtnadpfmakehngaaGlLaw
import Derived.Test.YtnadpfmakehngaaRows
import Derived.ProofKit
import Derived.OpenShut
import Derived.ShutString
namespace Go.Proofs.Ytnadpfmakehngaa
open Go.RowKit

/-- Is there a split ahead of k? -/
def acc (f : Bool) (p q t : List UInt8) (k : Nat) : Bool := (List.range k).any (fun i => mt f p (t.take i) && mt f q (t.drop i))
theorem acc_step (f : Bool) (p q t : List UInt8) (k : Nat) : acc f p q t (k + 1) = (acc f p q t k || (mt f p (t.take k) && mt f q (t.drop k))) := by
  unfold acc; rw [List.range_succ, List.any_append]; simp
theorem app_data (a b : ByteArray) : (a ++ b).data.toList = a.data.toList ++ b.data.toList := by simp
theorem app_size (a b : ByteArray) : (a ++ b).size = a.size + b.size := by simp
theorem ext_front (s : ByteArray) (k : Nat) : (s.extract 0 k).data.toList = s.data.toList.take k := by
  rw [Lib.extract_eq, List.drop_zero, Nat.sub_zero]
theorem ext_back (s : ByteArray) (k : Nat) : (s.extract k s.size).data.toList = s.data.toList.drop k := by
  rw [Lib.extract_eq, List.take_of_length_le (by rw [List.length_drop, ← Lib.size_eq]; omega)]

set_option maxHeartbeats 4000000 in
theorem splits_core (p q t : ByteArray) (f : Bool) (w : World) (hp : p.size ≤ 60) (hq : q.size ≤ 60) (ht : t.size ≤ 60) :
    Calls Try.prog 7 #[.string p, .string q, .string t, .bool f] w fun e w' => e = .returned (.bool true) ∧ Below w.heap.size w w' := by
  have C0 := Lib.hid (lives_any w)
  have g1 : decide ((60 : Int) < (p.size : Int)) = false := by simp; omega
  have g2 : decide ((60 : Int) < (q.size : Int)) = false := by simp; omega
  have g3 : decide ((60 : Int) < (t.size : Int)) = false := by simp; omega
  obtain ⟨A, HA⟩ : ∃ A : Nat → Bool, Hid (∀ k, A k = acc f p.data.toList q.data.toList t.data.toList k) := ⟨_, Lib.hid fun _ => rfl⟩
  go_enter Try.func7, Try.ntmps7
  go_wp2_with (go_at_call 9; refine C0.out.mono ?_; rintro e w1 ⟨rfl, b1⟩)
  go_loopg [9, 10] (t.size + 1) (fun gk s9 s10 wr => ∃ k : Nat, k + gk = t.size + 1 ∧ s9 = .bool (A k) ∧ s10 = .int .i64 k ∧ Hid (Below w.heap.size w wr))
  case atStart => exact ⟨0, by omega, by rw [HA.out]; rfl, rfl, Lib.hid b1⟩
  case round =>
    obtain ⟨k, hkg, rfl, rfl, HB⟩ := hrel
    cases gk with
    | zero =>
      have hkz : ¬ ((k : Int) ≤ (t.size : Int)) := by omega
      have CM := Lib.hid (onto (w0 := w) (match_at (p ++ q) t f (A k) (by rw [app_size]; omega) (by omega) (by
        rw [HA.out, app_data, mt_split, ← Lib.size_eq]
        have : k = t.size + 1 := by omega
        rw [this]; rfl)))
      cases hR : A k
      all_goals
        rw [hR] at CM
        go_wp2_with fail
        refine (CM.out _ HB.out).mono ?_
        rintro e w2 ⟨rfl, b2⟩
        go_wp2
        go_ret
        exact ⟨rfl, b2⟩
    | succ g' =>
      have hkz : (k : Int) ≤ (t.size : Int) := by omega
      have c0 : (0 : Int) ≤ (k : Int) := by omega
      have C1 := Lib.hid (onto (w0 := w) (match_at p (t.extract 0 k) f (mt f p.data.toList (t.data.toList.take k)) (by omega) (by have := Lib.size_eq (t.extract 0 k); rw [ext_front, List.length_take, ← Lib.size_eq] at this; omega) (by rw [ext_front])))
      have C2 := Lib.hid (onto (w0 := w) (match_at q (t.extract k t.size) f (mt f q.data.toList (t.data.toList.drop k)) (by omega) (by have := ext_size t k; omega) (by rw [ext_back])))
      have hs : A (k + 1) = (A k || (mt f p.data.toList (t.data.toList.take k) && mt f q.data.toList (t.data.toList.drop k))) := by rw [HA.out, HA.out]; exact acc_step _ _ _ _ _
      have c1 : k ≤ t.size := by omega
      generalize mt f p.data.toList (t.data.toList.take k) = x at C1 hs
      generalize mt f q.data.toList (t.data.toList.drop k) = y at C2 hs
      have HS := Lib.hid hs
      clear hs
      cases ha : A k with
      | true =>
        rw [ha, Bool.true_or] at HS
        go_wp2
        go_roundg g'
        case measure => omega
        case rel => exact ⟨k + 1, by omega, by rw [HS.out], iv (by omega), HB⟩
      | false =>
        rw [ha, Bool.false_or] at HS
        cases x with
        | false =>
          go_wp2_with fail
          refine (C1.out _ HB.out).mono ?_
          rintro e w2 ⟨rfl, b2⟩
          go_wp2
          go_roundg g'
          case measure => omega
          case rel => exact ⟨k + 1, by omega, by rw [HS.out]; rfl, iv (by omega), Lib.hid b2⟩
        | true =>
          go_wp2_with fail
          refine (C1.out _ HB.out).mono ?_
          rintro e w2 ⟨rfl, b2⟩
          go_wp2_with fail
          refine (C2.out w2 b2).mono ?_
          rintro e w3 ⟨rfl, b3⟩
          go_wp2
          go_roundg g'
          case measure => omega
          case rel => exact ⟨k + 1, by omega, by rw [HS.out]; rfl, iv (by omega), Lib.hid b3⟩

set_option maxHeartbeats 1000000 in
theorem splits_skip (p q t : ByteArray) (f : Bool) (w : World) (h : 60 < p.size ∨ (p.size ≤ 60 ∧ 60 < q.size) ∨ (p.size ≤ 60 ∧ q.size ≤ 60 ∧ 60 < t.size)) :
    Calls Try.prog 7 #[.string p, .string q, .string t, .bool f] w fun e w' => e = .returned (.bool true) ∧ Below w.heap.size w w' := by
  have C0 := Lib.hid (lives_any w)
  rcases h with h | ⟨h1, h⟩ | ⟨h1, h2, h⟩
  · have g1 : decide ((60 : Int) < (p.size : Int)) = true := by simp; omega
    clear h
    go_enter Try.func7, Try.ntmps7
    go_wp2_with (go_at_call 9; refine C0.out.mono ?_; rintro e w1 ⟨rfl, b1⟩)
    go_ret
    exact ⟨rfl, b1⟩
  · have g1 : decide ((60 : Int) < (p.size : Int)) = false := by simp; omega
    have g2 : decide ((60 : Int) < (q.size : Int)) = true := by simp; omega
    clear h h1
    go_enter Try.func7, Try.ntmps7
    go_wp2_with (go_at_call 9; refine C0.out.mono ?_; rintro e w1 ⟨rfl, b1⟩)
    go_ret
    exact ⟨rfl, b1⟩
  · have g1 : decide ((60 : Int) < (p.size : Int)) = false := by simp; omega
    have g2 : decide ((60 : Int) < (q.size : Int)) = false := by simp; omega
    have g3 : decide ((60 : Int) < (t.size : Int)) = true := by simp; omega
    clear h h1 h2
    go_enter Try.func7, Try.ntmps7
    go_wp2_with (go_at_call 9; refine C0.out.mono ?_; rintro e w1 ⟨rfl, b1⟩)
    go_ret
    exact ⟨rfl, b1⟩

/-- The law, for every input. -/
theorem splits_any (p q t : ByteArray) (f : Bool) (w : World) :
    Calls Try.prog 7 #[.string p, .string q, .string t, .bool f] w fun e w' => e = .returned (.bool true) ∧ Below w.heap.size w w' := by
  by_cases h : 60 < p.size ∨ (p.size ≤ 60 ∧ 60 < q.size) ∨ (p.size ≤ 60 ∧ q.size ≤ 60 ∧ 60 < t.size)
  · exact splits_skip p q t f w h
  · exact splits_core p q t f w (by omega) (by omega) (by omega)

open Go.ChangeShapes Go.WideShapes Go.ChangeAt
open Go.ChangeMaps (open_string shut_string)
theorem splits_own : ownKnob Try.prog.godebug = none := by kernel_rfl

set_option maxRecDepth 100000 in
theorem splits_lifted (os : Os) (started : os.Started) (H : Type) (enc : TypeId × Value → H) :
    ReturnsInHanded {} Try.checked os 7 .any (Rows.globSplitsSpec.pre6 enc Try.prog Try.f7 Rows.globSplitsRow.domain false) (Rows.globSplitsSpec.post enc Try.prog Try.f7 false true false false) := by
  refine returnsInHanded_of_change (C := Try.checked) splits_own started (by kernel_rfl) Try.func7
    (ChangeSpec.witness6 (enc := enc) (C := Try.checked) false ⟨#[], #[.string ByteArray.empty, .string ByteArray.empty, .string ByteArray.empty, .bool false], []⟩ 8 (by kernel_rfl) (by kernel_rfl) (by kernel_rfl) (by kernel_rfl)) ?_
  intro W base args ds gs before hval0 hW hcnd _
  have hval : ∀ (j : Nat) t v, Try.f7.params[j]? = some t → args[j]? = some v → Value.okWide Try.prog W .any base t v := hval0
  have hW' := hW
  obtain ⟨p, q, hA0, hV, rfl, hfz, hnd⟩ := hW
  have hA : DataW.TrodAll enc Try.prog W 0 (fun _ => true) true Try.f7.params.toList args.toList ds p := hA0
  rw [Try.params7] at hA hval
  obtain ⟨v0, vs0, d0, ds0, p0, q0, hargs, rfl, rfl, h0, r0⟩ := trodAll_cons hA
  obtain ⟨v1, vs1, d1, ds1, p1, q1, rfl, rfl, rfl, h1, r1⟩ := trodAll_cons r0
  obtain ⟨v2, vs2, d2, ds2, p2, q2, rfl, rfl, rfl, h2, r2⟩ := trodAll_cons r1
  obtain ⟨v3, vs3, d3, ds3, p3, q3, rfl, rfl, rfl, h3, r3⟩ := trodAll_cons r2
  obtain ⟨rfl, rfl, rfl⟩ := trodAll_nil r3
  obtain rfl : args = #[v0, v1, v2, v3] := by cases args; simp_all
  obtain ⟨rfl, rfl⟩ := trodVars_none hV
  obtain ⟨a0, rfl, rfl, rfl, w0⟩ := open_string Try.underlying9 (hval 0 9 v0 rfl rfl) h0
  obtain ⟨a1, rfl, rfl, rfl, w1⟩ := open_string Try.underlying9 (hval 1 9 v1 rfl rfl) h1
  obtain ⟨a2, rfl, rfl, rfl, w2⟩ := open_string Try.underlying9 (hval 2 9 v2 rfl rfl) h2
  obtain ⟨a3, rfl, rfl, rfl⟩ := open_bool Try.underlying4 (hval 3 4 v3 rfl rfl) h3
  clear hA0 hval0
  simp only [List.append_nil] at hW'
  refine (splits_any a0 a1 a2 a3 W).mono fun e W' ⟨he, bel⟩ => ?_
  subst he
  exact ⟨_, rfl, _, _, _, [], _, [], hW', trodAll_mk1 (shut_bool Try.underlying4 _), (trodAll_cons_mk (shut_string Try.underlying9 w0) (trodAll_cons_mk (shut_string Try.underlying9 w1) (trodAll_cons_mk (shut_string Try.underlying9 w2) (trodAll_cons_mk (shut_bool Try.underlying4 _) trodAll_mk0)))), rfl, bel.frame _, fun h => by cases h⟩

/-- The statement. -/
theorem splits_said : Rows.GlobSplitsSaid :=
  OpenClaim.holds_of_wide 7 Try.f7 rfl rfl rfl rfl rfl rfl rfl ⟨rfl, rfl, rfl, rfl, rfl⟩ rfl rfl rfl rfl rfl (by kernel_rfl) Try.func7 (by kernel_rfl)
    (of_decide_eq_true (by kernel_rfl)) (by unfold Func.isWrapper; first | (rw [if_pos (by decide +kernel)]; kernel_rfl) | (rw [if_neg (by decide +kernel)]; exact ⟨rfl, rfl⟩))
    (fun os started H enc _ => splits_lifted os started H enc)
#print axioms splits_said
end Go.Proofs.Ytnadpfmakehngaa
