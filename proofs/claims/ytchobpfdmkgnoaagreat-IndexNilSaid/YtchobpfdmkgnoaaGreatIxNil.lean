/-
  What is proved: outlawlaw10.IndexNil returns true at any act: an index that New did not return answers ErrNil, or nothing. No conditions.
-/
import Derived.Test.YtchobpfdmkgnoaaGreatIxOpen
import Derived.Test.YtchobpfdmkgnoaaGreatRows
import Derived.ProofKit
import Derived.OpenShut
import Derived.ShutString
import Derived.Carry
namespace Go.Proofs.YtchobpfdmkgnoaaGreat
open Go.RowKit Go.Shelf Go.Maps
theorem laid_out : laidOutB Tryz.prog = true := by kernel_rfl

set_option maxRecDepth 100000 in
set_option maxHeartbeats 1000000 in
theorem inil_any (a : ActA) (ha : ActOk a) (w : World) :
    Calls Tryz.prog 8 #[actV a] w fun e w' => e = .returned (.bool true) ∧ Below w.heap.size w w' := by
  have C0 := Lib.hid (fun W => ilives_any W)
  have C2 := Lib.hid (fun W => iput_nil a.id a.p a.f W)
  have C3 := Lib.hid (fun W => idrop_nil a.id W)
  have C4 := Lib.hid (fun W => imatch_nil a.t W)
  have C5 := Lib.hid (fun W => ihas_nil a.id W)
  have C6 := Lib.hid ilen_nil
  have C7 := Lib.hid iglobs_nil
  have C1 : Hid (∀ b W, W.heap[b]? = some (.cells #[.int .i64 a.kind, .int .i64 a.id, .string a.p, .bool a.f, .string a.t] 38 (0, 0)) → Calls Tryz.prog 19 #[.slice (some ⟨b, 0, none⟩) 1 1] W fun e w' => e = .returned (.bool (lightL [a])) ∧ w' = W) := Lib.hid (fun b W hb => light_any (acts_one a hb) (by simp))
  unfold actV
  obtain ⟨k, i, p, f, t⟩ := a
  dsimp only at C1 C2 C3 C4 C5 ⊢
  go_enter Tryz.func8, Tryz.ntmps8
  go_wp2_with fail
  refine (C0.out _).mono ?_
  rintro e w1 ⟨rfl, hb1⟩
  have hz0 : (w.alloc (.cells #[.int .i64 k, .int .i64 i, .string p, .bool f, .string t] 38)).heap.size = w.heap.size + 1 := World.size_alloc ..
  have hA : w1.heap[w.heap.size]? = some (.cells #[.int .i64 k, .int .i64 i, .string p, .bool f, .string t] 38 (0, 0)) := (hb1.block _ (by omega)).trans (World.alloc_heap_new w _)
  have hz1 := hb1.size
  have hbw : Below w.heap.size w w1 := ((Below.refl _ w).alloc (Nat.le_refl _) _).trans (hb1.mono (by omega))
  have hA2 : (w1.alloc (.cells #[.int .i64 k, .int .i64 i, .string p, .bool f, .string t] 38)).heap[w.heap.size]? = some (.cells #[.int .i64 k, .int .i64 i, .string p, .bool f, .string t] 38 (0, 0)) := (Below.heap_alloc _ _ _ (by omega)).trans hA
  have k0 : w1.cell? ⟨w.heap.size, 0, none⟩ = some (.int .i64 k) := by rw [cell_heap hA]; rfl
  have k1 : w1.cell? ⟨w.heap.size, 1, none⟩ = some (.int .i64 i) := by rw [cell_heap hA]; rfl
  have k2 : w1.cell? ⟨w.heap.size, 2, none⟩ = some (.string p) := by rw [cell_heap hA]; rfl
  have k3 : w1.cell? ⟨w.heap.size, 3, none⟩ = some (.bool f) := by rw [cell_heap hA]; rfl
  have k4 : w1.cell? ⟨w.heap.size, 4, none⟩ = some (.string t) := by rw [cell_heap hA]; rfl
  have CL := Lib.hid (C1.out w1.heap.size (w1.alloc (.cells #[.int .i64 k, .int .i64 i, .string p, .bool f, .string t] 38)) (World.alloc_heap_new w1 _))
  obtain ⟨W2, hW2⟩ : ∃ W2, w1.alloc (.cells #[.int .i64 k, .int .i64 i, .string p, .bool f, .string t] 38) = W2 := ⟨_, rfl⟩
  have hbW2 : Below w.heap.size w W2 := by rw [← hW2]; exact hbw.alloc hbw.size _
  rw [hW2] at hA2 CL
  have m1 : W2.cell? ⟨w.heap.size, 1, none⟩ = some (.int .i64 i) := by rw [cell_heap hA2]; rfl
  have m2 : W2.cell? ⟨w.heap.size, 2, none⟩ = some (.string p) := by rw [cell_heap hA2]; rfl
  have m3 : W2.cell? ⟨w.heap.size, 3, none⟩ = some (.bool f) := by rw [cell_heap hA2]; rfl
  have m4 : W2.cell? ⟨w.heap.size, 4, none⟩ = some (.string t) := by rw [cell_heap hA2]; rfl
  replace hbW2 := Lib.hid hbW2
  clear hA hA2 hb1 hbw hz0 hz1 C0 C1
  cases hl : lightL [⟨k, i, p, f, t⟩] with
  | false =>
    rw [hl] at CL
    go_wp2_with fail
    refine CL.out.mono ?_
    rintro e w2 ⟨rfl, e0⟩
    rw [e0]
    clear e0 w2
    go_wp2
    go_ret
    exact ⟨rfl, hbW2.out⟩
  | true =>
    rw [hl] at CL
    go_wp2_with fail
    refine CL.out.mono ?_
    rintro e w2 ⟨rfl, e0⟩
    rw [e0]
    clear e0 w2
    clear CL hl hW2 k0 k1 k2 k3 k4
    go_wp2_with (first
      | (go_at_call 13; refine (C2.out _).mono ?_; rintro e w2 ⟨rfl, rfl⟩)
      | (go_at_call 17; refine (C3.out _).mono ?_; rintro e w2 ⟨rfl, rfl⟩)
      | (go_at_call 15; refine (C4.out _).mono ?_; rintro e w2 ⟨rfl, rfl⟩)
      | (go_at_call 16; refine (C5.out _).mono ?_; rintro e w2 ⟨rfl, rfl⟩)
      | (go_at_call 18; refine (C6.out _).mono ?_; rintro e w2 ⟨rfl, rfl⟩)
      | (go_at_call 27; refine (C7.out _).mono ?_; rintro e w2 ⟨rfl, rfl⟩))
    go_ret
    exact ⟨rfl, hbW2.out⟩
open Go.ChangeShapes Go.WideShapes Go.ChangeAt
open Go.ChangeMaps (open_string shut_string)
theorem inil_own : ownKnob Tryz.prog.godebug = none := by kernel_rfl

set_option maxRecDepth 100000 in
theorem inil_lifted (os : Os) (started : os.Started) (H : Type) (enc : TypeId × Value → H) :
    ReturnsInHanded {} Tryz.checked os 8 .any (Rows.indexNilSpec.pre6 enc Tryz.prog Tryz.f8 Rows.indexNilRow.domain false) (Rows.indexNilSpec.post enc Tryz.prog Tryz.f8 false true false false) := by
  refine returnsInHanded_of_change (C := Tryz.checked) inil_own started (by kernel_rfl) Tryz.func8
    (ChangeSpec.witness6 (enc := enc) (C := Tryz.checked) false ⟨#[], #[.agg #[.int .i64 0, .int .i64 0, .string ByteArray.empty, .bool false, .string ByteArray.empty]], []⟩ 8 (by kernel_rfl) (by kernel_rfl) (by kernel_rfl) (by kernel_rfl)) ?_
  intro W base args ds gs before hval0 hW hcnd _
  have hval : ∀ (j : Nat) t v, Tryz.f8.params[j]? = some t → args[j]? = some v → Value.okWide Tryz.prog W .any base t v := hval0
  have hW' := hW
  obtain ⟨p, q, hA0, hV, rfl, hfz, hnd⟩ := hW
  have hA : DataW.TrodAll enc Tryz.prog W 0 (fun _ => true) true Tryz.f8.params.toList args.toList ds p := hA0
  rw [Tryz.params8] at hA hval
  obtain ⟨v0, vs0, d0, ds0, p0, q0, hargs, rfl, rfl, h0, r0⟩ := trodAll_cons hA
  obtain ⟨rfl, rfl, rfl⟩ := trodAll_nil r0
  obtain rfl : args = #[v0] := by cases args; simp_all
  obtain ⟨rfl, rfl⟩ := trodVars_none hV
  have hlt0 : ∀ x ∈ p0, x.block < W.heap.size := fun x hx => by simpa using hW'.lt x (by simp [hx])
  obtain ⟨A0, rfl, i0⟩ := open_act (hval 0 38 v0 rfl rfl) h0
  clear hA0 hval0
  simp only [List.append_nil] at hW'
  refine (inil_any A0 i0 W).mono fun e W' ⟨he, bel⟩ => ?_
  subst he
  exact ⟨_, rfl, _, _, _, [], _, [], hW', trodAll_mk1 (shut_bool Tryz.underlying4 _), (trodAll_cons_mk (Below.trod laid_out (by kernel_rfl) (of_decide_eq_true (by kernel_rfl)) h0 bel hlt0) trodAll_mk0), rfl, bel.frame _, fun h => by cases h⟩

/-- The statement. -/
theorem inil_said : Rows.IndexNilSaid :=
  OpenClaim.holds_of_wide 8 Tryz.f8 rfl rfl rfl rfl rfl rfl rfl ⟨rfl, rfl, rfl, rfl, rfl⟩ rfl rfl rfl rfl rfl (by kernel_rfl) Tryz.func8 (by kernel_rfl)
    (of_decide_eq_true (by kernel_rfl)) (by unfold Func.isWrapper; first | (rw [if_pos (by decide +kernel)]; kernel_rfl) | (rw [if_neg (by decide +kernel)]; exact ⟨rfl, rfl⟩))
    (fun os started H enc _ => inil_lifted os started H enc)
#print axioms inil_said
end Go.Proofs.YtchobpfdmkgnoaaGreat
