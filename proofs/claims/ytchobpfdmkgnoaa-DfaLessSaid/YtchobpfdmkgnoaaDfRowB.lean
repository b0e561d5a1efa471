/-
  What is proved: what (*builder).row returns: the numbers of the sets that a list's bytes lead to, by class; new sets get the next numbers. Of what lay in memory before, only the builder's own blocks are changed.
-/
import Derived.Test.YtchobpfdmkgnoaaDfRow
import Derived.Deep.RegionHeld3
namespace Go.Proofs.Ytchobpfdmkgnoaa
open Go.RowKit Go.Shelf Go.Maps

theorem make_ints (n : Nat) (hn : n ≤ 1000000) (w : World) :
    (Instr.makeSlice 24 (.int .i64 (n : Int)) (.int .i64 (n : Int))).run Try.prog w = .ok (.slice (some ⟨w.heap.size, 0, none⟩) n n) (w.alloc (.cells (madeCells #[.int .i64 0] n) 3)) :=
  run_make_row' (P := Try.prog) 24 3 (.int .i64 0) 8 Try.underlying24 info_int rfl .i64 .i64 n (by omega) (by omega) w
/-- Block r holds n numbers. -/
def NumsAt (W : World) (r n : Nat) (g : Nat → Int) : Prop := W.rowIs r 3 n (fun i => .int .i64 (g i))
theorem nums_made (W : World) (n : Nat) : NumsAt (W.alloc (.cells (madeCells #[.int .i64 0] n) 3)) W.heap.size n (fun _ => 0) := World.rowIs_made W (.int .i64 0) n 3
theorem NumsAt.put {W : World} {r n : Nat} {g : Nat → Int} (h : NumsAt W r n g) (i : Nat) (x : Int) : NumsAt (W.setCell ⟨r, i, none⟩ (.int .i64 x)) r n (fun j => if j = i then x else g j) :=
  World.rowIs.congr (World.rowIs.set h i _) (fun j _ => by by_cases e : j = i <;> simp [e])

theorem BI.setOther {W : World} {base b nb : Nat} {P SA : List UInt8} {cl : Nat → Nat} {m : Nat} {ss : List (List Int)} {sv : Value} {vals : List Value} (h : BI W base b nb P SA cl m ss sv vals) {r : Nat} (i : Nat) (v : Value) (h1 : r ≠ b) (h2 : r ≠ m) (h3 : sv.ownBlock ≠ some r) (h4 : ∀ x, x ∈ vals → x.ownBlock ≠ some r) : BI (W.setCell ⟨r, i, none⟩ v) base b nb P SA cl m ss sv vals := by
  have keep : ∀ k, k ≠ r → (W.setCell ⟨r, i, none⟩ v).heap[k]? = W.heap[k]? := fun k hk => Below.heap_setCell _ _ _ _ hk
  have hz : (W.setCell ⟨r, i, none⟩ v).heap.size = W.heap.size := by simp [World.setCell]
  obtain ⟨M, hM, hK⟩ := h.map
  refine ⟨h.obj.same (keep _ (Ne.symm h1)), row_kept h.own (fun k hk => keep k (fun e => h3 (by rw [hk, e]))), ⟨M, map_kept hM (keep _ (Ne.symm h2)), hK⟩, fun j x hx => ?_, h.one, h.bm, h.sb, h.sm, h.hb, h.hm, h.small⟩
  obtain ⟨g1, g2, g3, g4⟩ := h.rows j x hx
  exact ⟨g1.kept (fun k hk _ => keep k (fun e => h4 x (List.mem_iff_getElem?.2 ⟨j, hx⟩) (by rw [hk, e]))) (by omega), g2, g3, fun k hk => ⟨(g4 k hk).1, by have := (g4 k hk).2; omega⟩⟩

/-- Only the builder's blocks, and one more that is new. -/
theorem Off.set {b m : Nat} {sv : Value} {W W' : World} (h : Off b m sv W W') {r : Nat} (hr : W.heap.size ≤ r) (i : Nat) (v : Value) : Off b m sv W (W'.setCell ⟨r, i, none⟩ v) :=
  ⟨h.os, h.tape, h.output, by have := h.size; simp [World.setCell]; omega, fun k hk h1 h2 h3 => (Below.heap_setCell _ _ _ _ (by show k ≠ r; omega)).trans (h.block k hk h1 h2 h3)⟩

theorem take_next (B SA : List UInt8) (l : List Int) {k : Nat} {c : UInt8} (h : SA[k]? = some c) : (nextsL B SA l).take (k + 1) = (nextsL B SA l).take k ++ [stepL B l c] := by
  unfold nextsL
  rw [List.take_add_one, List.getElem?_map, h]; rfl

/-- The numbers of the first k classes. -/
def RowTo (B SA : List UInt8) (ss : List (List Int)) (l : List Int) (k : Nat) (g : Nat → Int) : Prop := ∀ j c, j < k → SA[j]? = some c → g j = (ss.idxOf (stepL B l c) : Int) ∧ stepL B l c ∈ ss
theorem RowTo.next {B SA : List UInt8} {ss : List (List Int)} {l : List Int} {k : Nat} {g : Nat → Int} {c : UInt8} (h : RowTo B SA ss l k g) (hc : SA[k]? = some c) : RowTo B SA (addL ss (stepL B l c)) l (k + 1) (fun j => if j = k then ((addL ss (stepL B l c)).idxOf (stepL B l c) : Int) else g j) := by
  intro j d hj hd
  by_cases e : j = k
  · subst e
    rw [hc] at hd
    have : c = d := by injection hd
    subst this
    exact ⟨by simp, addL_mem _ _⟩
  · obtain ⟨h1, h2⟩ := h j d (by omega) hd
    refine ⟨?_, (addL_pre _ _).subset h2⟩
    simp only [if_neg e]
    rw [h1, idx_pre (addL_pre _ _) h2]
theorem RowTo.quiet {B SA : List UInt8} {ss : List (List Int)} {l : List Int} {k : Nat} {g : Nat → Int} {c c0 : UInt8} (h : RowTo B SA ss l k g) (hc : SA[k]? = some c) (hk : 0 < k) (h0 : SA[0]? = some c0) (e : stepL B l c = stepL B l c0) :
    addL ss (stepL B l c) = ss ∧ RowTo B SA ss l (k + 1) (fun j => if j = k then g 0 else g j) := by
  obtain ⟨h1, h2⟩ := h 0 c0 hk h0
  refine ⟨by unfold addL; rw [if_pos (by rw [e]; exact h2)], fun j d hj hd => ?_⟩
  by_cases ej : j = k
  · subst ej
    rw [hc] at hd
    have : c = d := by injection hd
    subst this
    rw [e]
    exact ⟨by simpa using h1, h2⟩
  · simp only [if_neg ej]
    exact h j d (by omega) hd

/-- A class that does not stand: its byte leads where the * does. -/
theorem quiet_cls {P SA : List UInt8} {f : Bool} {cl : Nat → Nat} (hcl : ∀ c : UInt8, cl c.toNat = clsL SA (cntC f c)) (hnd : SA.Nodup) {l : List Int} {k : Nat} {c : UInt8} (hc : SA[k]? = some c) (h : standF P cl l k = false) :
    stepL (cntL f P) l c = stepL (cntL f P) l 42 := by
  apply step_quiet
  intro i hi hl e
  have hcm : c ∈ SA := List.mem_iff_getElem?.2 ⟨k, hc⟩
  rw [cntL_at] at e
  rw [cntL_len] at hl
  rw [List.getElem?_eq_getElem hl] at e
  have e2 : cntC f P[i] = c := by simpa using e
  have e3 : cl (P.getD i 0).toNat = k := by
    rw [List.getD_eq_getElem?_getD, List.getElem?_eq_getElem hl]
    show cl (P[i]).toNat = k
    rw [hcl, e2]
    unfold clsL
    rw [if_pos hcm]
    obtain ⟨hk, hkc⟩ := List.getElem?_eq_some_iff.1 hc
    rw [← hkc]
    exact List.Nodup.idxOf_getElem hnd k hk
  have : standF P cl l k = true := by
    unfold standF
    rw [List.any_eq_true]
    exact ⟨(i : Int), hi, by rw [Int.toNat_natCast, e3, decide_eq_true hl]; simp⟩
  rw [h] at this; exact absurd this (by decide)
end Go.Proofs.Ytchobpfdmkgnoaa
