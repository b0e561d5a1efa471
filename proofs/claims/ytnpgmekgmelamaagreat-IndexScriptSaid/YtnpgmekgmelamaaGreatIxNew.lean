/-
  What is proved: what index.New, Has and Len return; which error check returns.
-/
import Derived.Test.YtnpgmekgmelamaaGreatIxObj
import Derived.Lib.MinMax
namespace Go.Proofs.YtnpgmekgmelamaaGreat
open Go.RowKit Go.Shelf Go.Maps

set_option maxHeartbeats 1000000 in
theorem inew_raw (most : Int) (w : World) :
    Calls Tryz.prog 28 #[.int .i64 most] w fun e w' => ∃ (x bg bl bo m : Nat), e = .returned (.pointer (some ⟨x, 0, none⟩)) ∧ 1 ≤ m ∧ m ≤ 256 ∧ ObjAt w' x m bg bl bo ∧ w'.heap[bg]? = some (.map #[] 0) ∧ w'.heap[bl]? = some (.map #[] 0) ∧ w'.heap[bo]? = some (.map #[] 0) ∧
      w.heap.size ≤ bg ∧ bg < bl ∧ bl < bo ∧ w.heap.size ≤ x ∧ x ≠ bg ∧ x ≠ bl ∧ x ≠ bo ∧ Below w.heap.size w w' := by
  obtain ⟨m, hm, h1, h2⟩ : ∃ m : Nat, (min (max most 1) 256 : Int) = (m : Int) ∧ 1 ≤ m ∧ m ≤ 256 := ⟨(min (max most 1) 256).toNat, by omega, by omega, by omega⟩
  have hmm := @run_makeMap Tryz.prog
  go_enter Tryz.func28, Tryz.ntmps28
  go_wp2
  go_ret
  have z1 : (w.alloc (.map #[] 0)).heap.size = w.heap.size + 1 := World.size_alloc ..
  have z2 : ((w.alloc (.map #[] 0)).alloc (.map #[] 0)).heap.size = w.heap.size + 1 + 1 := by rw [World.size_alloc, z1]
  have z3 : (((w.alloc (.map #[] 0)).alloc (.map #[] 0)).alloc (.map #[] 0)).heap.size = w.heap.size + 1 + 1 + 1 := by rw [World.size_alloc, z2]
  obtain ⟨W1, hW1⟩ : ∃ W1, w.alloc (.map #[] 0) = W1 := ⟨_, rfl⟩
  rw [hW1] at z1 z2 z3
  obtain ⟨W2, hW2⟩ : ∃ W2, W1.alloc (.map #[] 0) = W2 := ⟨_, rfl⟩
  rw [hW2] at z2 z3
  obtain ⟨W3, hW3⟩ : ∃ W3, W2.alloc (.map #[] 0) = W3 := ⟨_, rfl⟩
  rw [hW3] at z3
  rw [hW1, hW2, hW3]
  have k1 : W1.heap[w.heap.size]? = some (.map #[] 0) := by rw [← hW1]; exact World.alloc_heap_new w _
  have k2 : W2.heap[w.heap.size + 1]? = some (.map #[] 0) := by rw [← hW2, ← z1]; exact World.alloc_heap_new W1 _
  have k3 : W3.heap[w.heap.size + 1 + 1]? = some (.map #[] 0) := by rw [← hW3, ← z2]; exact World.alloc_heap_new W2 _
  have b1 : Below w.heap.size w W1 := by rw [← hW1]; exact (Below.refl _ w).alloc (Nat.le_refl _) _
  have b2 : Below w.heap.size w W2 := by rw [← hW2]; exact b1.alloc (by omega) _
  have b3 : Below w.heap.size w W3 := by rw [← hW3]; exact b2.alloc (by omega) _
  have o1 : ∀ k, k < w.heap.size + 1 → W2.heap[k]? = W1.heap[k]? := fun k hk => by rw [← hW2]; exact Below.heap_alloc _ _ _ (by omega)
  have o2 : ∀ k, k < w.heap.size + 1 + 1 → W3.heap[k]? = W2.heap[k]? := fun k hk => by rw [← hW3]; exact Below.heap_alloc _ _ _ (by omega)
  refine ⟨w.heap.size + 1 + 1 + 1, w.heap.size, w.heap.size + 1, w.heap.size + 1 + 1, m, rfl, h1, h2, ?_, ?_, ?_, ?_, by omega, by omega, by omega, by omega, by omega, by omega, by omega, b3.alloc (by omega) _⟩
  · have := World.alloc_heap_new W3 (.cells #[.pointer (some ⟨w.heap.size + 1 + 1 + 1, 0, none⟩), .int .i64 (m : Int), .map (some w.heap.size), .map (some (w.heap.size + 1)), .map (some (w.heap.size + 1 + 1))] 109)
    rw [z3] at this
    exact this
  · rw [Below.heap_alloc _ _ _ (by omega), o2 _ (by omega), o1 _ (by omega)]; exact k1
  · rw [Below.heap_alloc _ _ _ (by omega), o2 _ (by omega)]; exact k2
  · rw [Below.heap_alloc _ _ _ (by omega)]; exact k3

theorem ihas_raw {w : World} {x most bg bl bo c : Nat} {F : Lit → Option Value} (h : ObjAt w x most bg bl bo) (hm : MapL 3 w bg c F) (i : Int) (hi : (Lit.int .i64 i).wf = true) (hF : ∃ a s f, (F (.int .i64 i)).getD zeroG = .agg #[.int .i64 a, .string s, .bool f]) :
    Calls Tryz.prog 37 #[.pointer (some ⟨x, 0, none⟩), .int .i64 i] w fun e w' => e = .returned (.bool (F (.int .i64 i)).isSome) ∧ Below w.heap.size w w' := by
  have C := Lib.hid (imade_any h)
  have c2 := h.c2
  have hL0 := hm.look2 (t := 105) lawI Tryz.underlying105 (zero_glob w) (keyI hi)
  obtain ⟨R, hR⟩ : ∃ R, (F (.int .i64 i)).isSome = R := ⟨_, rfl⟩
  obtain ⟨ga, gs, gf, hV⟩ := hF
  rw [hR, hV] at hL0
  rw [hR]
  clear hR hV h hm hi
  go_enter Tryz.func37, Tryz.ntmps37
  go_wp2_with (go_at_call 68; refine C.out.mono ?_; rintro e w' ⟨rfl, rfl⟩)
  go_ret
  exact ⟨rfl, (Below.refl _ _).alloc (Nat.le_refl _) _⟩
theorem ilen_raw {w : World} {x most bg bl bo c : Nat} {F : Lit → Option Value} (h : ObjAt w x most bg bl bo) (hm : MapL 3 w bg c F) :
    Calls Tryz.prog 36 #[.pointer (some ⟨x, 0, none⟩)] w fun e w' => e = .returned (.int .i64 (c : Int)) ∧ w' = w := by
  have C := Lib.hid (imade_any h)
  have c2 := h.c2
  have hL := fun ty => hm.len Tryz.underlying105 ty
  clear h hm
  go_enter Tryz.func36, Tryz.ntmps36
  go_wp2_with (go_at_call 68; refine C.out.mono ?_; rintro e w' ⟨rfl, rfl⟩)
  go_ret
  exact ⟨rfl, rfl⟩
end Go.Proofs.YtnpgmekgmelamaaGreat
