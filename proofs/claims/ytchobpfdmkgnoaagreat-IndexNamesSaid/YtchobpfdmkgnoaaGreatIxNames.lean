/-
  What is proved: outlawlaw10.IndexNames returns true: the chapter's example, and the errors. No conditions.
-/
import Derived.Test.YtchobpfdmkgnoaaGreatIxOpen
import Derived.Test.YtchobpfdmkgnoaaGreatRows
import Derived.ProofKit
import Derived.OpenShut
import Derived.ShutString
import Derived.Carry
namespace Go.Proofs.YtchobpfdmkgnoaaGreat
open Go.RowKit Go.Shelf Go.Maps

theorem has_from {w0 W : World} {x : Nat} {L : List G} {N : Nat} {col : Nat → Col} (H : Idx W x L N w0.heap.size col) (hb : Below w0.heap.size w0 W) (i : Int) (hi : (Lit.int .i64 i).wf = true) :
    Calls Tryz.prog 16 #[.pointer (some ⟨x, 0, none⟩), .int .i64 i] W fun e w' => e = .returned (.bool (hasG L i)) ∧ Idx w' x L N w0.heap.size col ∧ Below w0.heap.size w0 w' := by
  have H0 := H
  obtain ⟨most, bg, bl, bo, cl, co, Fl, ao, H⟩ := H
  refine (H.has i hi).mono ?_
  rintro e w' ⟨rfl, hb'⟩
  exact ⟨rfl, H0.below hb', hb.trans (hb'.mono hb.size)⟩
theorem len_from {W : World} {x : Nat} {L : List G} {N base : Nat} {col : Nat → Col} (H : Idx W x L N base col) :
    Calls Tryz.prog 18 #[.pointer (some ⟨x, 0, none⟩)] W fun e w' => e = .returned (.int .i64 (L.length : Int)) ∧ w' = W := by
  obtain ⟨most, bg, bl, bo, cl, co, Fl, ao, H⟩ := H
  exact H.lenA

def na1 : List G := putL [] (-1) ⟨#[97]⟩ false
def na2 : List G := putL na1 5 ⟨#[]⟩ false
def na3 : List G := putL na2 5 ⟨#[65]⟩ true
def na4 : List G := putL na3 5 ⟨#[98]⟩ false
def na5 : List G := delG 5 na4
def na6 : List G := delG 5 na5

theorem int_lit (a : Int) : (Lit.int .i64 a).wf = decide (-9223372036854775808 ≤ a ∧ a ≤ 9223372036854775807) := by
  simp [Lit.wf]; rfl

set_option maxRecDepth 100000 in
set_option maxHeartbeats 4000000 in
theorem inames_any (w : World) : Calls Tryz.prog 3 #[] w fun e w' => e = .returned (.bool true) ∧ Below w.heap.size w w' := by
  have C0 := Lib.hid (inew_any 0 w)
  have CL := Lib.hid (fun W => ilives_any W)
  have C1 : Hid (∀ W x col, Idx W x [] 0 w.heap.size col → Below w.heap.size w W → Calls Tryz.prog 13 #[.pointer (some ⟨x, 0, none⟩), .int .i64 (-1), .string ⟨#[97]⟩, .bool false] W fun e w' => e = .returned (.int .i64 2) ∧ ∃ col', Idx w' x na1 1 w.heap.size col' ∧ Below w.heap.size w w') := Lib.hid (fun W x col H hb => by
    have := put_from H hb (-1) (by decide) ⟨#[97]⟩ false (by decide) (by decide) (fun _ _ => sortsN_small (by decide +kernel))
    rwa [show putE [] (-1) ⟨#[97]⟩ = 2 by decide +kernel] at this)
  have C2 : Hid (∀ W x col, Idx W x na1 1 w.heap.size col → Below w.heap.size w W → Calls Tryz.prog 13 #[.pointer (some ⟨x, 0, none⟩), .int .i64 5, .string ⟨#[]⟩, .bool false] W fun e w' => e = .returned (.int .i64 2) ∧ ∃ col', Idx w' x na2 2 w.heap.size col' ∧ Below w.heap.size w w') := Lib.hid (fun W x col H hb => by
    have := put_from H hb 5 (by decide) ⟨#[]⟩ false (by decide) (by decide) (fun _ _ => sortsN_small (by decide +kernel))
    rwa [show putE na1 5 ⟨#[]⟩ = 2 by decide +kernel] at this)
  have C3 : Hid (∀ W x col, Idx W x na2 2 w.heap.size col → Below w.heap.size w W → Calls Tryz.prog 13 #[.pointer (some ⟨x, 0, none⟩), .int .i64 5, .string ⟨#[65]⟩, .bool true] W fun e w' => e = .returned (.int .i64 0) ∧ ∃ col', Idx w' x na3 3 w.heap.size col' ∧ Below w.heap.size w w') := Lib.hid (fun W x col H hb => by
    have := put_from H hb 5 (by decide) ⟨#[65]⟩ true (by decide) (by decide) (fun _ _ => sortsN_small (by decide +kernel))
    rwa [show putE na2 5 ⟨#[65]⟩ = 0 by decide +kernel] at this)
  have C4 : Hid (∀ W x col, Idx W x na3 3 w.heap.size col → Below w.heap.size w W → Calls Tryz.prog 13 #[.pointer (some ⟨x, 0, none⟩), .int .i64 5, .string ⟨#[98]⟩, .bool false] W fun e w' => e = .returned (.int .i64 8) ∧ ∃ col', Idx w' x na4 4 w.heap.size col' ∧ Below w.heap.size w w') := Lib.hid (fun W x col H hb => by
    have := put_from H hb 5 (by decide) ⟨#[98]⟩ false (by decide) (by decide) (fun _ _ => sortsN_small (by decide +kernel))
    rwa [show putE na3 5 ⟨#[98]⟩ = 8 by decide +kernel] at this)
  have C5 : Hid (∀ W x col, Idx W x na4 4 w.heap.size col → Below w.heap.size w W → Calls Tryz.prog 15 #[.pointer (some ⟨x, 0, none⟩), .string ⟨#[97]⟩] W fun e w' => ∃ v, e = .returned v ∧ Idx w' x na4 4 w.heap.size col ∧ Below w.heap.size w w' ∧ Ints w' v [5] ∧ ∀ k, v.ownBlock = some k → W.heap.size ≤ k) := Lib.hid (fun W x col H hb => match_from H hb (by decide) ⟨#[97]⟩ (by decide) (by decide +kernel))
  have C6 : Hid (∀ W x col, Idx W x na4 4 w.heap.size col → Below w.heap.size w W → Calls Tryz.prog 16 #[.pointer (some ⟨x, 0, none⟩), .int .i64 5] W fun e w' => e = .returned (.bool true) ∧ Idx w' x na4 4 w.heap.size col ∧ Below w.heap.size w w') := Lib.hid (fun W x col H hb => by
    have := has_from H hb 5 (by decide)
    rwa [show hasG na4 5 = true by decide +kernel] at this)
  have C7 : Hid (∀ W x col, Idx W x na4 4 w.heap.size col → Below w.heap.size w W → Calls Tryz.prog 17 #[.pointer (some ⟨x, 0, none⟩), .int .i64 5] W fun e w' => e = .returned (.int .i64 0) ∧ ∃ col', Idx w' x na5 5 w.heap.size col' ∧ Below w.heap.size w w') := Lib.hid (fun W x col H hb => by
    have := drop_from H hb 5 (by decide) (by decide)
    rwa [show dropE na4 5 = 0 by decide +kernel] at this)
  have C8 : Hid (∀ W x col, Idx W x na5 5 w.heap.size col → Below w.heap.size w W → Calls Tryz.prog 17 #[.pointer (some ⟨x, 0, none⟩), .int .i64 5] W fun e w' => e = .returned (.int .i64 12) ∧ ∃ col', Idx w' x na6 6 w.heap.size col' ∧ Below w.heap.size w w') := Lib.hid (fun W x col H hb => by
    have := drop_from H hb 5 (by decide) (by decide)
    rwa [show dropE na5 5 = 12 by decide +kernel] at this)
  have C9 : Hid (∀ W x col, Idx W x na6 6 w.heap.size col → Calls Tryz.prog 18 #[.pointer (some ⟨x, 0, none⟩)] W fun e w' => e = .returned (.int .i64 0) ∧ w' = W) := Lib.hid (fun W x col H => by
    have := len_from H
    rwa [show na6.length = 0 by decide +kernel] at this)
  go_enter Tryz.func3, Tryz.ntmps3
  go_wp2_with fail
  refine C0.out.mono ?_
  rintro e w1 ⟨x, col, rfl, H1, hb1⟩
  go_wp2_with fail
  refine (CL.out _).mono ?_
  rintro e w2 ⟨rfl, hL⟩
  have H2 := H1.below hL
  have hb2 := hb1.trans (hL.mono hb1.size)
  clear hL H1 hb1 C0 CL
  go_wp2_with fail
  refine (C1.out _ _ _ H2 hb2).mono ?_
  rintro e w3 ⟨rfl, col3, H3, hb3⟩
  clear H2 hb2 C1
  go_wp2_with fail
  refine (C2.out _ _ _ H3 hb3).mono ?_
  rintro e w4 ⟨rfl, col4, H4, hb4⟩
  clear H3 hb3 C2
  go_wp2_with fail
  refine (C3.out _ _ _ H4 hb4).mono ?_
  rintro e w5 ⟨rfl, col5, H5, hb5⟩
  clear H4 hb4 C3
  go_wp2_with fail
  refine (C4.out _ _ _ H5 hb5).mono ?_
  rintro e w6 ⟨rfl, col6, H6, hb6⟩
  clear H5 hb5 C4
  go_wp2_with fail
  refine (C5.out _ _ _ H6 hb6).mono ?_
  rintro e w7 ⟨v, rfl, H7, hb7, hi7, _⟩
  clear H6 hb6 C5
  have CS := Lib.hid (same_any (hi7.below ((Below.refl _ w7).alloc (Nat.le_refl _) (.cells #[.int .i64 5] 3))) (ints_lit1 w7 5 3) (by decide))
  go_wp2_with fail
  refine CS.out.mono ?_
  rintro e w8 ⟨rfl, hb8⟩
  have hba : Below w7.heap.size w7 w8 := ((Below.refl _ w7).alloc (Nat.le_refl _) _).trans (hb8.mono (by rw [World.size_alloc]; exact Nat.le_succ _))
  have H8 := H7.below hba
  have hb8' := hb7.trans (hba.mono hb7.size)
  clear H7 hb7 hb8 hba CS hi7
  go_wp2_with fail
  refine (C6.out _ _ _ H8 hb8').mono ?_
  rintro e w9 ⟨rfl, H9, hb9⟩
  clear H8 hb8' C6
  go_wp2_with fail
  refine (C7.out _ _ _ H9 hb9).mono ?_
  rintro e w10 ⟨rfl, col10, H10, hb10⟩
  clear H9 hb9 C7
  go_wp2_with fail
  refine (C8.out _ _ _ H10 hb10).mono ?_
  rintro e w11 ⟨rfl, col11, H11, hb11⟩
  clear H10 hb10 C8
  go_wp2_with fail
  refine (C9.out _ _ _ H11).mono ?_
  rintro e w12 ⟨rfl, rfl⟩
  clear H11 C9
  go_wp2
  go_ret
  exact ⟨rfl, hb11⟩
open Go.ChangeShapes Go.WideShapes Go.ChangeAt
open Go.ChangeMaps (open_string shut_string)
theorem inames_own : ownKnob Tryz.prog.godebug = none := by kernel_rfl

set_option maxRecDepth 100000 in
theorem inames_lifted (os : Os) (started : os.Started) (H : Type) (enc : TypeId × Value → H) :
    ReturnsInHanded {} Tryz.checked os 3 .any (Rows.indexNamesSpec.pre6 enc Tryz.prog Tryz.f3 Rows.indexNamesRow.domain false) (Rows.indexNamesSpec.post enc Tryz.prog Tryz.f3 false true false false) := by
  refine returnsInHanded_of_change (C := Tryz.checked) inames_own started (by kernel_rfl) Tryz.func3
    (ChangeSpec.witness6 (enc := enc) (C := Tryz.checked) false ⟨#[], #[], []⟩ 8 (by kernel_rfl) (by kernel_rfl) (by kernel_rfl) (by kernel_rfl)) ?_
  intro W base args ds gs before hval0 hW hcnd _
  have hW' := hW
  obtain ⟨p, q, hA0, hV, rfl, hfz, hnd⟩ := hW
  have hA : DataW.TrodAll enc Tryz.prog W 0 (fun _ => true) true Tryz.f3.params.toList args.toList ds p := hA0
  rw [Tryz.params3] at hA
  obtain ⟨hargs, rfl, rfl⟩ := trodAll_nil hA
  obtain rfl : args = #[] := by cases args; simp_all
  obtain ⟨rfl, rfl⟩ := trodVars_none hV
  clear hA0 hval0
  simp only [List.append_nil] at hW'
  refine (inames_any W).mono fun e W' ⟨he, bel⟩ => ?_
  subst he
  exact ⟨_, rfl, _, _, _, [], _, [], hW', trodAll_mk1 (shut_bool Tryz.underlying4 _), trodAll_mk0, rfl, bel.frame _, fun h => by cases h⟩

/-- The statement. -/
theorem inames_said : Rows.IndexNamesSaid :=
  OpenClaim.holds_of_wide 3 Tryz.f3 rfl rfl rfl rfl rfl rfl rfl ⟨rfl, rfl, rfl, rfl, rfl⟩ rfl rfl rfl rfl rfl (by kernel_rfl) Tryz.func3 (by kernel_rfl)
    (of_decide_eq_true (by kernel_rfl)) (by unfold Func.isWrapper; first | (rw [if_pos (by decide +kernel)]; kernel_rfl) | (rw [if_neg (by decide +kernel)]; exact ⟨rfl, rfl⟩))
    (fun os started H enc _ => inames_lifted os started H enc)
#print axioms inames_said
end Go.Proofs.YtchobpfdmkgnoaaGreat
