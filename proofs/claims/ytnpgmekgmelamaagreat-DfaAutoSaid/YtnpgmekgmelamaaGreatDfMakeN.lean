/-
  What is proved: what dfa.Build and dfa.New return of texts that are no globs, and of bounds that are none. What lay in memory before stands as it stood.
-/
import Derived.Test.YtnpgmekgmelamaaGreatDfMake
import Derived.Handy
namespace Go.Proofs.YtnpgmekgmelamaaGreat
open Go.RowKit Go.Shelf Go.Maps

theorem zero_put {w w1 : World} (h0 : w1.heap[w.heap.size]? = some (.cells #[.slice none 0 0, .slice none 0 0, .slice none 0 0] 26 (0, 0))) :
    (w1.cell? ⟨w.heap.size, 0, none⟩ = some (.slice none 0 0) ∧ w1.frozen? ⟨w.heap.size, 0, none⟩ = false) ∧ (w1.cell? ⟨w.heap.size, 1, none⟩ = some (.slice none 0 0) ∧ w1.frozen? ⟨w.heap.size, 1, none⟩ = false) ∧ (w1.cell? ⟨w.heap.size, 2, none⟩ = some (.slice none 0 0) ∧ w1.frozen? ⟨w.heap.size, 2, none⟩ = false) :=
  ⟨⟨by rw [cell_heap h0]; rfl, frozen_heap h0 0⟩, ⟨by rw [cell_heap h0]; rfl, frozen_heap h0 1⟩, ⟨by rw [cell_heap h0]; rfl, frozen_heap h0 2⟩⟩

set_option maxHeartbeats 1000000 in
theorem make_most (p : ByteArray) (f : Bool) (most : Int) (w : World) (hp : checkN p.size = 0) (hm : (decide (1 ≤ most) && decide (most ≤ 256)) = false) :
    Calls Tryz.prog 11 #[.string p, .bool f, .int .i64 most] w fun e w' => e = .returned (.tuple #[.agg #[.slice none 0 0, .slice none 0 0, .slice none 0 0], .bool false]) ∧ Below w.heap.size w w' := by
  have C1 := Lib.hid (fun w => new_any p f w hp)
  have CM : Hid (∀ w, Calls Tryz.prog 45 #[.int .i64 most] w fun e w' => e = .returned (.bool false) ∧ w' = w) := Lib.hid (fun w => by
    have := isMost_any most w
    rwa [hm] at this)
  clear hm hp
  go_enter Tryz.func11, Tryz.ntmps11
  go_wp2_with fail
  refine (C1.out _).mono ?_
  rintro e w3 ⟨nb, rfl, hnb, ho1, hb1⟩
  have hz0 : (w.alloc (.cells #[.slice none 0 0, .slice none 0 0, .slice none 0 0] 26)).heap.size = w.heap.size + 1 := by simp
  have hD3 : w3.heap[w.heap.size]? = some (.cells #[.slice none 0 0, .slice none 0 0, .slice none 0 0] 26 (0, 0)) := by
    rw [hb1.block _ (by omega)]
    exact World.alloc_heap_new w _
  have hbw := Lib.hid (((Below.refl _ w).alloc (Nat.le_refl _) (.cells #[.slice none 0 0, .slice none 0 0, .slice none 0 0] 26)).trans (hb1.mono (by omega)))
  obtain ⟨⟨d0, f0⟩, ⟨d1, f1⟩, ⟨d2, f2⟩⟩ := zero_put hD3
  obtain ⟨e0, e1, e2⟩ := put3 hD3 (.slice none 0 0) (.slice none 0 0) (.slice none 0 0)
  clear hb1 ho1 hnb hz0 C1
  go_wp2_with (go_at_call 45; refine (CM.out _).mono ?_; rintro e w2 ⟨rfl, rfl⟩)
  refine bodyPost_ret (v := .tuple #[.agg #[.slice none 0 0, .slice none 0 0, .slice none 0 0], .bool false]) (by simp [results, Tryz.results11, go_sem, e0, e1, e2]) rfl ?_
  exact ⟨rfl, put3_below hbw.out (Nat.le_refl _) _ _ _⟩

set_option maxHeartbeats 1000000 in
theorem make_bad (p : ByteArray) (f : Bool) (most : Int) (w : World) (hp : checkN p.size ≠ 0) :
    Calls Tryz.prog 11 #[.string p, .bool f, .int .i64 most] w fun e w' => e = .returned (.tuple #[.agg #[.slice none 0 0, .slice none 0 0, .slice none 0 0], .bool false]) ∧ Below w.heap.size w w' := by
  have C1 := Lib.hid (fun w => new_not p f w hp)
  obtain ⟨k, hk⟩ : ∃ k, checkN p.size = k := ⟨_, rfl⟩
  rw [hk] at C1 hp
  clear hk
  have hD3 := World.alloc_heap_new w (.cells #[.slice none 0 0, .slice none 0 0, .slice none 0 0] 26)
  have hbw := Lib.hid ((Below.refl _ w).alloc (Nat.le_refl _) (.cells #[.slice none 0 0, .slice none 0 0, .slice none 0 0] 26))
  obtain ⟨⟨d0, f0⟩, ⟨d1, f1⟩, ⟨d2, f2⟩⟩ := zero_put hD3
  go_enter Tryz.func11, Tryz.ntmps11
  go_wp2_with (go_at_call 44; refine (C1.out _).mono ?_; rintro e w2 ⟨rfl, rfl⟩)
  refine bodyPost_ret (v := .tuple #[.agg #[.slice none 0 0, .slice none 0 0, .slice none 0 0], .bool false]) (by simp [results, Tryz.results11, go_sem]) rfl ?_
  exact ⟨rfl, hbw.out⟩

set_option maxHeartbeats 1000000 in
theorem anew_bad (p : ByteArray) (f : Bool) (most : Int) (w : World) (hp : checkN p.size ≠ 0) :
    Calls Tryz.prog 20 #[.string p, .bool f, .int .i64 most] w fun e w' => e = .returned (.tuple #[.pointer none, .int .i64 (checkN p.size)]) ∧ Below w.heap.size w w' := by
  have C1 := Lib.hid (fun w => new_not p f w hp)
  obtain ⟨k, hk⟩ : ∃ k, checkN p.size = k := ⟨_, rfl⟩
  rw [hk] at C1 hp
  rw [hk]
  clear hk
  go_enter Tryz.func20, Tryz.ntmps20
  go_wp2_with (go_at_call 44; refine (C1.out _).mono ?_; rintro e w2 ⟨rfl, rfl⟩)
  refine bodyPost_ret (v := .tuple #[.pointer none, .int .i64 k]) (by simp [results, Tryz.results20, go_sem]) rfl ?_
  exact ⟨rfl, Below.refl _ _⟩
end Go.Proofs.YtnpgmekgmelamaaGreat
