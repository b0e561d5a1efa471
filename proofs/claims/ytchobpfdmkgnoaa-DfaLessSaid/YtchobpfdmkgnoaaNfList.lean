/-
  What is proved: what set.states and slices.Collect return: the list of a set's states, in a block of its own. What lay in memory before stands as it stood.
-/
import Derived.Test.YtchobpfdmkgnoaaNfSets
import Derived.BigCall
import Derived.BigQuiet
namespace Go.Proofs.Ytchobpfdmkgnoaa
open Go.RowKit Go.Shelf
attribute [local go_sem] Oper.semAt_some

theorem info_int : (Try.prog.info? 3).map (fun i => (i.zero, i.size, i.bytes)) = some (some (.int .i64 0), 1, 8) := by kernel_rfl

set_option maxHeartbeats 1000000 in
/-- set.states: the set is boxed; the function value captures the box. -/
theorem states_any (a : Option Addr) (len cap : Nat) (w : World) :
    Calls Try.prog 40 #[.slice a len cap] w fun e w' => e = .returned (.func (.func 57) #[] #[.pointer (some ⟨w.heap.size, 0, none⟩)]) ∧ w' = w.alloc (.cells #[.slice a len cap] 83) := by
  have hmf : ∀ (fn : Fn) (first cap : Array Value) (w : World), (Instr.makeFunc fn first cap).run Try.prog w = .ok (.func fn first cap) w := fun _ _ _ _ => rfl
  go_enter Try.func40, Try.ntmps40
  go_wp2
  go_ret
  exact ⟨rfl, rfl⟩

/-- The iterator over a set, told for a caller. -/
theorem states_stops (F : Fence) (n : Nat) (hF : F.fn 57) (hro : F.round = none) (hn : 1 ≤ n) (Bs b N : Nat) (R : (Nat → Bool) → (Nat → Bool) → Prop) (hRr : ∀ g, R g g) (hRt : ∀ {f g h}, R f g → R g h → R f h) (g0 : Nat → Bool) (hN : N ≤ 1000000)
    (w : World) (hB : Bs < w.heap.size) (hBs : w.cell? ⟨Bs, 0, none⟩ = some (setV b N)) (hc : SetAt w b N g0) :
    SeqStopsK F n Try.prog 57 #[.pointer (some ⟨Bs, 0, none⟩)] (encS (n := N)) (KeepsSet R b N) (fun xs => Came R g0 N N xs)
      (fun pre => ∃ k hk xs g, Came R g0 N k xs ∧ R g0 g ∧ g k = true ∧ pre = xs ++ [⟨k, hk⟩]) N w := fun l J Jx W hW _ _ hY h0 =>
  states1_in F n hF hro hn l Bs b N R hRr hRt g0 hN J Jx hY W ((hW.cell (p := ⟨Bs, 0, none⟩) hB).trans hBs) (hc.below hW hc.lt) h0

def vals {n : Nat} (xs : List (St n)) : List Value := xs.map (fun x => Value.int .i64 (x.1 : Int))
theorem vals_snoc {n : Nat} (xs : List (St n)) (x : St n) : vals (xs ++ [x]) = vals xs ++ [Value.int .i64 (x.1 : Int)] := by simp [vals]
theorem vals_len {n : Nat} (xs : List (St n)) : (vals xs).length = xs.length := by simp [vals]
theorem vals_ints {n k : Nat} {xs : List (St n)} {g : Nat → Bool} (h : xs.map Subtype.val = listF k g) : vals xs = (intsF k g).map (Value.int .i64) ∧ xs.length = (intsF k g).length := by
  constructor
  · unfold vals intsF
    rw [← h]
    simp
  · unfold intsF
    rw [← h]
    simp

set_option maxRecDepth 100000 in
set_option maxHeartbeats 2000000 in
theorem appendSeq_in (F : Fence) (n : Nat) (h47 : F.fn 54) (h49 : F.fn 57) (hro : F.round = none) (hn : 3 ≤ n) (Bs b N : Nat) (g0 : Nat → Bool) (hN : N ≤ 1000000)
    (w : World) (hB : Bs < w.heap.size) (hBs : w.cell? ⟨Bs, 0, none⟩ = some (setV b N)) (hc : SetAt w b N g0) :
    CallsIn F n Try.prog 54 #[.slice none 0 0, .func (.func 57) #[] #[.pointer (some ⟨Bs, 0, none⟩)]] w fun e W' =>
      ∃ v, e = .returned v ∧ W'.ownsRow w.heap.size 3 1 v (intsF N g0).length ((intsF N g0).map (Value.int .i64)) ∧ Below w.heap.size w W' := by
  have h1 : 1 ≤ n := by omega
  have hbl := hc.lt
  obtain ⟨i0, hi, hz0, hz1, hz2⟩ := info_parts info_int
  refine callsIn_of_wp_marks Try.func54 rfl h47 ?_ hro
  simp only [Try.ntmps54, List.size_toArray, List.length_cons, List.length_nil, Nat.reduceAdd, Nat.reduceSub, Array.replicate_succ, Array.replicate_zero, List.push_toArray, List.append_toArray, List.nil_append, List.cons_append]
  gi_wp2
  have bO := Boxed.new w 24 (.slice none 0 0)
  have hB0 : Below w.heap.size w (w.alloc (.cells #[.slice none 0 0] 24)) := (Below.refl _ w).alloc (Nat.le_refl _) _
  refine wpIn_rangeFunc_ownG hro h1 (gf := 57) (lb := #[.pointer (some ⟨Bs, 0, none⟩)]) rfl h49 (enters_of Try.func57 (by kernel_rfl) rfl)
    (states_stops F (n - 1) h49 hro (by omega) Bs b N (· = ·) (fun _ => rfl) (fun h k => h.trans k) g0 hN _ (by simp; omega) ((hB0.cell (p := ⟨Bs, 0, none⟩) hB).trans hBs) (hc.below hB0 hbl)) (keepsSet_t (fun h k => h.trans k)) (keepsSet_b (fun _ => rfl) (by simp; omega)) (Below.refl _ _) (fun _ => rfl)
    (fun pre W => (∃ v, Boxed W w.heap.size 24 v ∧ W.ownsRow w.heap.size 3 1 v (vals pre).length (vals pre) ∧ True) ∧ Below w.heap.size w W)
    (fun _ _ _ => False)
    (OwnFrom.and (Own.from (holdsRow_own w.heap.size w.heap.size 24 3 1 (fun pre => (vals pre).length) (fun pre => vals pre) (fun _ _ => True)) _) (ownFrom_below (Nat.le_refl _) (by simp)))
    (fun _ _ _ _ _ hs _ _ => hs)
    ⟨⟨_, bO, World.ownsRow_nil _ _ _ _, trivial⟩, hB0⟩
    (fun x => { tmps := #[.slice none 0 0, .func (.func 57) #[] #[.pointer (some ⟨Bs, 0, none⟩)], .pointer (some ⟨w.heap.size, 0, none⟩), undef, .slice none 0 0, .int .i64 (x.1 : Int), .func (.func 57) #[] #[.pointer (some ⟨Bs, 0, none⟩)], .int .i64 (x.1 : Int), undef, undef, undef, undef, undef], defers := [] }) ?assign ?body ?done ?stop
  case assign =>
    intro l x W K hK
    unfold encS
    gi_wp2
    exact hK
  case body =>
    rintro l pre x W ⟨⟨v, hv, hrow, _⟩, hBW⟩ hlt
    have hc := hv.cell
    have hf := hv.frozen
    have hpl : (vals pre).length < 1000000 := by rw [vals_len]; omega
    have hbs := hBW.size
    gi_wp2_with (gi_at_builtin; refine wpListIn_append_own _ rfl _ _ 24 rfl w.heap.size 3 i0 (.int .i64 0) 1 8 Try.underlying24 hi hz0 hz1 hz2 rfl (by decide) _ _ _ rfl (hrow.alloc _) ⟨W.heap.size, 0, none⟩ 1 1 [.int .i64 (x.1 : Int)] rfl rfl (cell_one_new _ _ _) (by simp [Value.oneCell']) (by unfold maxLen; omega) (by omega) (by have := hBW.size; simp; omega) ?_; intro v' w1 hown' hgrow _; obtain ⟨g', cap', rfl⟩ := ownsRow_succ hown'; obtain ⟨hv1, hv2, hr2, hk2, hb2⟩ := hv.appended (by decide) hrow hBW.size (Nat.le_refl _) hown' hgrow; have hc1 := hv1.cell; have hf1 := hv1.frozen)
    exact ⟨hk2.from _, keepsSet_below (fun _ => rfl) hb2 hbl, ⟨_, hv2, by rw [vals_snoc, List.length_append, List.length_singleton]; exact hr2, trivial⟩, hBW.trans hb2⟩
  case done =>
    rintro D ys W hD hcm ⟨⟨v, hv, hrow, _⟩, hBW⟩ hK
    have hc := hv.cell
    gi_wp2
    refine ⟨by simp, .inl ⟨_, _, rfl, run_takeDeferred hK, ?_⟩⟩
    obtain ⟨e1, e2⟩ := vals_ints (came_eq hcm)
    rw [vals_len, e2, e1] at hrow
    exact ⟨_, results_tmp rfl _ _ _, v, rfl, ownsRow_putObj hrow _ hK rfl, hBW.trans (belowK_b (w := w) (Nat.le_refl _) W D _ _ (by simp at hD; omega) hK rfl rfl)⟩
  case stop =>
    rintro D c pre W _ _ h _
    exact h.elim

/-- slices.Collect(s.states()): behind the making of the iterator. -/
theorem collect_any (Bs b N : Nat) (g0 : Nat → Bool) (hN : N ≤ 1000000) (w : World) (hB : Bs < w.heap.size) (hBs : w.cell? ⟨Bs, 0, none⟩ = some (setV b N)) (hc : SetAt w b N g0) :
    Calls Try.prog 38 #[.func (.func 57) #[] #[.pointer (some ⟨Bs, 0, none⟩)]] w fun e W' =>
      ∃ v, e = .returned v ∧ W'.ownsRow w.heap.size 3 1 v (intsF N g0).length ((intsF N g0).map (Value.int .i64)) ∧ Below w.heap.size w W' := by
  have C := Lib.hid (callsIn_wide.1 (appendSeq_in Fence.wide 3 trivial trivial rfl (by omega) Bs b N g0 hN w hB hBs hc))
  go_enter Try.func38, Try.ntmps38
  go_wp2_with (go_at_call 54; refine C.out.mono ?_; rintro e w' ⟨v, rfl, hr, hb⟩)
  go_ret
  exact ⟨v, rfl, hr, hb⟩
end Go.Proofs.Ytchobpfdmkgnoaa
