/-
  What is proved: outlawlaw08.NfaNames returns true: the example of the chapter has the result that it states. No conditions.
-/
import Derived.Test.YtinhihdceijfaaaNfOpen
namespace Go.Proofs.Ytinhihdceijfaaa
open Go.RowKit Go.Shelf

theorem on1 {n : Nat} {w1 w2 w3 : World} (h : Below n w1 w2) (k : Below w2.heap.size w2 w3) (hn : n ≤ w1.heap.size) : Below n w1 w3 := h.trans (k.mono (Nat.le_trans hn h.size))
theorem on2 {w1 w2 w3 : World} {o : Obj} (h : Below w1.heap.size w1 w2) (k : Below (w2.alloc o).heap.size (w2.alloc o) w3) : Below w1.heap.size w1 w3 := on1 (h.alloc h.size o) k (Nat.le_refl _)

def q0 : ByteArray := ⟨#[97, 63, 42, 42]⟩
def P0 : List UInt8 := [97, 63, 42]
theorem q0_norm : normP q0 = P0 := by decide +kernel
theorem P0_no : noSt P0 := by have := normP_no q0; rwa [q0_norm] at this

set_option maxHeartbeats 8000000 in
theorem names_any (w : World) :
    Calls Try.prog 3 #[] w fun e w' => e = .returned (.bool true) ∧ Below w.heap.size w w' := by
  have C1 : Hid (Calls Try.prog 8 #[.string { data := #[97, 63, 42, 42] }, .bool true] w fun e w' => ∃ b, e = .returned (.tuple #[.pointer (some ⟨b, 0, none⟩), .int .i64 0]) ∧ w.heap.size ≤ b ∧ NfaAt w' b P0 true ∧ Below w.heap.size w w') := Lib.hid (by
    have := new_any q0 true w (by decide)
    rwa [q0_norm] at this)
  have C2 : Hid (∀ W, Calls Try.prog 8 #[.string { data := #[] }, .bool false] W fun e w' => e = .returned (.tuple #[.pointer none, .int .i64 2]) ∧ w' = W) := Lib.hid (fun W => new_not ⟨#[]⟩ false W (by decide))
  have C3 := Lib.hid lives_any
  have C4 : Hid (∀ W b, NfaAt W b P0 true → Calls Try.prog 10 #[.pointer (some ⟨b, 0, none⟩)] W fun e w' => e = .returned (.tuple #[.string { data := #[97, 63, 42] }, .bool true]) ∧ Below W.heap.size W w') := Lib.hid (fun W b h => pattern_any h (by decide))
  have C5 : Hid (∀ W b, NfaAt W b P0 true → Calls Try.prog 11 #[.pointer (some ⟨b, 0, none⟩)] W fun e w' => e = .returned (.int .i64 4) ∧ w' = W) := Lib.hid (fun W b h => sizes_any h (by decide))
  have C6 : Hid (∀ W b, NfaAt W b P0 true → Calls Try.prog 13 #[.pointer (some ⟨b, 0, none⟩)] W fun e w' => ∃ v, e = .returned v ∧ Ints w' v [0] ∧ Below W.heap.size W w') := Lib.hid (fun W b h => startAt h (by decide) P0_no (by decide +kernel))
  have C7 : Hid (∀ W b v, NfaAt W b P0 true → Ints W v [0] → Calls Try.prog 14 #[.pointer (some ⟨b, 0, none⟩), v, .int .u8 65] W fun e w' => ∃ v', e = .returned v' ∧ Ints w' v' [1] ∧ Below W.heap.size W w') := Lib.hid (fun W b v h hv => stepAt h (by decide) P0_no hv (by decide) 65 (by decide +kernel))
  have C8 : Hid (∀ W b v, NfaAt W b P0 true → Ints W v [1] → Calls Try.prog 14 #[.pointer (some ⟨b, 0, none⟩), v, .int .u8 65] W fun e w' => ∃ v', e = .returned v' ∧ Ints w' v' [2, 3] ∧ Below W.heap.size W w') := Lib.hid (fun W b v h hv => stepAt h (by decide) P0_no hv (by decide) 65 (by decide +kernel))
  have C9 : Hid (∀ W v1 v2 (zs : List Int), Ints W v1 zs → Ints W v2 zs → zs.length ≤ 3 → Calls Try.prog 12 #[v1, v2] W fun e w' => e = .returned (.bool true) ∧ Below W.heap.size W w') := Lib.hid (fun W v1 v2 zs h1 h2 h3 => by
    have := same_any h1 h2 (by omega)
    rwa [show (zs == zs) = true by simp] at this)
  have C10 : Hid (∀ W b v, NfaAt W b P0 true → Ints W v [9, 3] → Calls Try.prog 15 #[.pointer (some ⟨b, 0, none⟩), v] W fun e w' => e = .returned (.bool true) ∧ w' = W) := Lib.hid (fun W b v h hv => by
    have := accepts_any h hv (by decide)
    rwa [show inL [9, 3] P0.length = true by decide +kernel] at this)
  have C11 : Hid (∀ W b, NfaAt W b P0 true → Calls Try.prog 16 #[.pointer (some ⟨b, 0, none⟩), .string { data := #[65, 98, 99] }] W fun e w' => e = .returned (.bool true) ∧ Below W.heap.size W w') := Lib.hid (fun W b h => by
    have := run_any h (by decide) P0_no ⟨#[65, 98, 99]⟩ (by decide)
    rwa [show mt true P0 (ByteArray.mk #[65, 98, 99]).data.toList = true by decide +kernel] at this)
  have C12 : Hid (∀ W b, NfaAt W b P0 true → Calls Try.prog 16 #[.pointer (some ⟨b, 0, none⟩), .string { data := #[97] }] W fun e w' => e = .returned (.bool false) ∧ Below W.heap.size W w') := Lib.hid (fun W b h => by
    have := run_any h (by decide) P0_no ⟨#[97]⟩ (by decide)
    rwa [show mt true P0 (ByteArray.mk #[97]).data.toList = false by decide +kernel] at this)
  go_enter Try.func3, Try.ntmps3
  go_wp2_with fail
  refine C1.out.mono ?_
  rintro e w1 ⟨b, rfl, hb, ho1, hb0⟩
  have hl1 := ho1.lt
  go_wp2_with fail
  refine (C2.out _).mono ?_
  rintro e w2 ⟨rfl, rfl⟩
  go_wp2_with fail
  refine (C3.out _).mono ?_
  rintro e w3 ⟨rfl, hb3⟩
  go_wp2_with fail
  refine (C4.out _ _ (ho1.below hb3 hl1)).mono ?_
  rintro e w4 ⟨rfl, hb4⟩
  replace hb4 := on1 hb3 hb4 (Nat.le_refl _)
  clear hb3
  go_wp2_with fail
  refine (C5.out _ _ (ho1.below hb4 hl1)).mono ?_
  rintro e w5 ⟨rfl, rfl⟩
  go_wp2_with fail
  refine (C6.out _ _ (ho1.below hb4 hl1)).mono ?_
  rintro e w6 ⟨v6, rfl, hi6, hb6⟩
  replace hb6 := on1 hb4 hb6 (Nat.le_refl _)
  clear hb4
  go_wp2_with fail
  refine (C9.out _ _ _ _ (hi6.below ((Below.refl _ _).alloc (Nat.le_refl _) _)) (ints_lit w6 [0]) (by decide)).mono ?_
  rintro e w7 ⟨rfl, hb7⟩
  replace hb7 := on2 hb6 hb7
  clear hb6 hi6
  go_wp2_with fail
  refine (C7.out _ _ _ (ho1.below (hb7.alloc hb7.size _) hl1) (ints_lit w7 [0])).mono ?_
  rintro e w8 ⟨v8, rfl, hi8, hb8⟩
  replace hb8 := on2 hb7 hb8
  clear hb7
  go_wp2_with fail
  refine (C9.out _ _ _ _ (hi8.below ((Below.refl _ _).alloc (Nat.le_refl _) _)) (ints_lit w8 [1]) (by decide)).mono ?_
  rintro e w9 ⟨rfl, hb9⟩
  replace hb9 := on2 hb8 hb9
  clear hb8 hi8
  go_wp2_with fail
  refine (C8.out _ _ _ (ho1.below (hb9.alloc hb9.size _) hl1) (ints_lit w9 [1])).mono ?_
  rintro e w10 ⟨v10, rfl, hi10, hb10⟩
  replace hb10 := on2 hb9 hb10
  clear hb9
  go_wp2_with fail
  refine (C9.out _ _ _ _ (hi10.below ((Below.refl _ _).alloc (Nat.le_refl _) _)) (ints_lit w10 [2, 3]) (by decide)).mono ?_
  rintro e w11 ⟨rfl, hb11⟩
  replace hb11 := on2 hb10 hb11
  clear hb10 hi10
  go_wp2_with fail
  refine (C10.out _ _ _ (ho1.below (hb11.alloc hb11.size _) hl1) (ints_lit w11 [9, 3])).mono ?_
  rintro e w12 ⟨rfl, rfl⟩
  have hb12 := hb11.alloc hb11.size (.cells #[.int .i64 9, .int .i64 3] 3)
  go_wp2_with fail
  refine (C11.out _ _ (ho1.below hb12 hl1)).mono ?_
  rintro e w13 ⟨rfl, hb13⟩
  replace hb13 := on1 hb12 hb13 (Nat.le_refl _)
  clear hb12 hb11
  go_wp2_with fail
  refine (C12.out _ _ (ho1.below hb13 hl1)).mono ?_
  rintro e w14 ⟨rfl, hb14⟩
  replace hb14 := on1 hb13 hb14 (Nat.le_refl _)
  have hfin := Lib.hid (hb0.trans (hb14.mono hb0.size))
  clear hb13 hb14
  go_wp2
  go_ret
  exact ⟨rfl, hfin.out⟩

open Go.ChangeShapes Go.WideShapes Go.ChangeAt
open Go.ChangeMaps (open_string shut_string)
theorem names_own : ownKnob Try.prog.godebug = none := by kernel_rfl

set_option maxRecDepth 100000 in
theorem names_lifted (os : Os) (started : os.Started) (H : Type) (enc : TypeId × Value → H) :
    ReturnsInHanded {} Try.checked os 3 .any (Rows.nfaNamesSpec.pre6 enc Try.prog Try.f3 Rows.nfaNamesRow.domain false) (Rows.nfaNamesSpec.post enc Try.prog Try.f3 false true false false) := by
  refine returnsInHanded_of_change (C := Try.checked) names_own started (by kernel_rfl) Try.func3
    (ChangeSpec.witness6 (enc := enc) (C := Try.checked) false ⟨#[], #[], []⟩ 8 (by kernel_rfl) (by kernel_rfl) (by kernel_rfl) (by kernel_rfl)) ?_
  intro W base args ds gs before hval0 hW hcnd _
  have hW' := hW
  obtain ⟨p, q, hA0, hV, rfl, hfz, hnd⟩ := hW
  have hA : DataW.TrodAll enc Try.prog W 0 (fun _ => true) true Try.f3.params.toList args.toList ds p := hA0
  rw [Try.params3] at hA
  obtain ⟨hargs, rfl, rfl⟩ := trodAll_nil hA
  obtain rfl : args = #[] := by cases args; simp_all
  obtain ⟨rfl, rfl⟩ := trodVars_none hV
  clear hA0 hval0
  simp only [List.append_nil] at hW'
  refine (names_any W).mono fun e W' ⟨he, bel⟩ => ?_
  subst he
  exact ⟨_, rfl, _, _, _, [], _, [], hW', trodAll_mk1 (shut_bool Try.underlying4 _), trodAll_mk0, rfl, bel.frame _, fun h => by cases h⟩

/-- The statement. -/
theorem names_said : Rows.NfaNamesSaid :=
  OpenClaim.holds_of_wide 3 Try.f3 rfl rfl rfl rfl rfl rfl rfl ⟨rfl, rfl, rfl, rfl, rfl⟩ rfl rfl rfl rfl rfl (by kernel_rfl) Try.func3 (by kernel_rfl)
    (of_decide_eq_true (by kernel_rfl)) (by unfold Func.isWrapper; first | (rw [if_pos (by decide +kernel)]; kernel_rfl) | (rw [if_neg (by decide +kernel)]; exact ⟨rfl, rfl⟩))
    (fun os started H enc _ => names_lifted os started H enc)
#print axioms names_said
end Go.Proofs.Ytinhihdceijfaaa
