/-
  What is proved: sets of states in memory (slices of bools), their list as an iterator (set.states: the rounds may change the set, as a relation says), and what slices.Collect makes of it: the list of the states, in a block of its own. What lay in memory before stands as it stood.
-/
import Derived.RangeFuncNested
import Derived.RangeFuncBound
import Derived.RangeFuncCalls
import Derived.RangeFuncLeaves
import Derived.Shelf.Abstract
import Derived.Shelf.RegionOpen
import Derived.WalkKit
import Derived.OwnWalkIn
import Derived.TacticsInMore
import Derived.LoopNIn
import Derived.LoopIn
import Derived.Maps.AppendAt
import Derived.Deep.OwnRows
import Derived.Test.YtchobpfdmkgnoaaNfMath
import Derived.Test.YtchobpfdmkgnoaaGlCode
namespace Go.Proofs.Ytchobpfdmkgnoaa
open Go.RowKit Go.Shelf
attribute [local go_sem] Oper.semAt_some

/-- Block b holds the set g of n states. -/
def SetAt (W : World) (b n : Nat) (g : Nat → Bool) : Prop := W.rowIs b 4 n (fun i => .bool (g i))
def setV (b n : Nat) : Value := .slice (some ⟨b, 0, none⟩) n n
theorem SetAt.congr {W : World} {b n : Nat} {g h : Nat → Bool} (hs : SetAt W b n g) (e : ∀ i, i < n → g i = h i) : SetAt W b n h := World.rowIs.congr hs (fun i hi => by rw [e i hi])
theorem SetAt.lt {W : World} {b n : Nat} {g : Nat → Bool} (hs : SetAt W b n g) : b < W.heap.size := World.rowIs.lt hs
theorem SetAt.of_block {W W' : World} {b n : Nat} {g : Nat → Bool} (hs : SetAt W b n g) (e : W'.heap[b]? = W.heap[b]?) : SetAt W' b n g := World.rowIs.of_block hs e
theorem SetAt.below {W W' : World} {b n B : Nat} {g : Nat → Bool} (hs : SetAt W b n g) (h : Below B W W') (hb : b < B) : SetAt W' b n g := hs.of_block (h.block b hb)
theorem SetAt.cells {W : World} {b n : Nat} {g : Nat → Bool} (hs : SetAt W b n g) : ∃ o : Obj, W.heap[b]? = some o ∧ o.isCells = true := by
  obtain ⟨c, hc, _⟩ := hs
  exact ⟨_, hc, rfl⟩
theorem SetAt.add {W : World} {b n : Nat} {g : Nat → Bool} (hs : SetAt W b n g) (i : Nat) : SetAt (W.setCell ⟨b, i, none⟩ (.bool true)) b n (fun j => if j = i then true else g j) :=
  World.rowIs.congr (World.rowIs.set hs i _) (fun j _ => by by_cases e : j = i <;> simp [e])
theorem SetAt.other {W : World} {b n : Nat} {g : Nat → Bool} (hs : SetAt W b n g) (a : Addr) (v : Value) (h : b ≠ a.block) : SetAt (W.setCell a v) b n g := World.rowIs.setOther hs h v
theorem boxed_other {W : World} {B : Nat} {t : TypeId} {v : Value} (h : Boxed W B t v) (a : Addr) (u : Value) (hne : B ≠ a.block) : Boxed (W.setCell a u) B t v := (Below.heap_setCell _ _ _ _ hne).trans h
theorem setAt_own {β : Type} (b n : Nat) (f : β → Nat → Bool) : Own (fun s W => SetAt W b n (f s)) := fun s X Y row hs hg hr => by
  refine SetAt.of_block hs (hg.block b (SetAt.lt hs) (fun e => ?_))
  obtain ⟨o, ho, hc⟩ := hr b e.symm
  obtain ⟨o', ho', hc'⟩ := SetAt.cells hs
  rw [ho] at ho'; cases ho'; rw [hc] at hc'; cases hc'

/-- A state of n. -/
abbrev St (n : Nat) := { x : Nat // x < n }
def encS {n : Nat} (x : St n) : Array Value := #[Value.int .i64 (x.1 : Int)]

/-- What a round that goes on keeps: the set, but for what R allows. -/
def KeepsSet (R : (Nat → Bool) → (Nat → Bool) → Prop) (b n : Nat) (W W' : World) : Prop := ∀ g, SetAt W b n g → ∃ g', SetAt W' b n g' ∧ R g g'
theorem keepsSet_t {R : (Nat → Bool) → (Nat → Bool) → Prop} (hR : ∀ {f g h}, R f g → R g h → R f h) {b n : Nat} {A B C : World} (h : KeepsSet R b n A B) (k : KeepsSet R b n B C) : KeepsSet R b n A C := fun g hg => by
  obtain ⟨g1, h1, r1⟩ := h g hg
  obtain ⟨g2, h2, r2⟩ := k g1 h1
  exact ⟨g2, h2, hR r1 r2⟩
theorem keepsSet_b {R : (Nat → Bool) → (Nat → Bool) → Prop} (hR : ∀ g, R g g) {b n : Nat} {w : World} (hb : b < w.heap.size) (W : World) (l : Nat) (o o' : Obj) (hl : w.heap.size ≤ l) (_ : W.heap[l]? = some o) (_ : o.isCells = false) (_ : o.isWalk = false) : KeepsSet R b n W (W.putObj l o') :=
  fun g hg => ⟨g, hg.of_block (World.putObj_heap_other (by omega)), hR g⟩
theorem keepsSet_below {R : (Nat → Bool) → (Nat → Bool) → Prop} (hR : ∀ g, R g g) {b n B : Nat} {W W' : World} (h : Below B W W') (hb : b < B) : KeepsSet R b n W W' := fun g hg => ⟨g, hg.below h hb, hR g⟩
theorem keepsSet_same {R : (Nat → Bool) → (Nat → Bool) → Prop} (hR : ∀ g, R g g) {b n : Nat} {W W' : World} (h : W'.heap[b]? = W.heap[b]?) : KeepsSet R b n W W' := fun g hg => ⟨g, hg.of_block h, hR g⟩

/-- What has come when the first k positions are gone through: at each the set was as R allows. -/
def Came (R : (Nat → Bool) → (Nat → Bool) → Prop) (g0 : Nat → Bool) (n k : Nat) (xs : List (St n)) : Prop :=
  ∃ h : Nat → Bool, xs.map Subtype.val = listF k h ∧ ∀ i, i < k → ∃ g, R g0 g ∧ h i = g i
theorem came_nil (R : (Nat → Bool) → (Nat → Bool) → Prop) (g0 : Nat → Bool) (n : Nat) : Came R g0 n 0 [] := ⟨g0, rfl, fun i hi => absurd hi (Nat.not_lt_zero i)⟩
theorem came_len {R : (Nat → Bool) → (Nat → Bool) → Prop} {g0 : Nat → Bool} {n k : Nat} {xs : List (St n)} (h : Came R g0 n k xs) : xs.length ≤ k := by
  obtain ⟨h, e, _⟩ := h
  have := listF_len k h
  rw [← e, List.length_map] at this
  exact this
theorem came_step {R : (Nat → Bool) → (Nat → Bool) → Prop} {g0 g : Nat → Bool} {n k : Nat} {xs : List (St n)} (h : Came R g0 n k xs) (hk : k < n) (hr : R g0 g) :
    Came R g0 n (k + 1) (xs ++ if g k then [⟨k, hk⟩] else []) := by
  obtain ⟨h, e, hh⟩ := h
  refine ⟨fun i => if i = k then g k else h i, ?_, fun i hi => ?_⟩
  · rw [listF_succ, List.map_append, e]
    congr 1
    · exact listF_congr fun i hi => by rw [if_neg (by omega)]
    · simp only [if_true]
      cases g k <;> rfl
  · by_cases ei : i = k
    · subst ei; exact ⟨g, hr, by simp⟩
    · simp only [if_neg ei]; exact hh i (by omega)
theorem came_eq {g0 : Nat → Bool} {n k : Nat} {xs : List (St n)} (h : Came (· = ·) g0 n k xs) : xs.map Subtype.val = listF k g0 := by
  obtain ⟨h, e, hh⟩ := h
  rw [e]
  exact listF_congr fun i hi => by obtain ⟨g, rfl, e⟩ := hh i hi; exact e

set_option maxRecDepth 100000 in
set_option maxHeartbeats 2000000 in
/-- The iterator. -/
theorem states1_in (F : Fence) (n : Nat) (hF : F.fn 57) (hro : F.round = none) (hn : 1 ≤ n) (l Bs b N : Nat) (R : (Nat → Bool) → (Nat → Bool) → Prop) (hRr : ∀ g, R g g) (hRt : ∀ {f g h}, R f g → R g h → R f h) (g0 : Nat → Bool) (hN : N ≤ 1000000)
    (J Jx : List (St N) → World → Prop)
    (hY : ∀ pre x W, J pre W → pre.length < N → YieldAt F (n - 1) Try.prog l (encS x) W fun e W' =>
      (e = .returned (.bool true) ∧ J (pre ++ [x]) W' ∧ KeepsSet R b N W W') ∨ (e = .returned (.bool false) ∧ Jx (pre ++ [x]) W'))
    (W : World) (hBs : W.cell? ⟨Bs, 0, none⟩ = some (setV b N)) (hc : SetAt W b N g0) (h0 : J [] W) :
    CallsIn F n Try.prog 57 #[.func (.yield l) #[] #[], .pointer (some ⟨Bs, 0, none⟩)] W fun e W' => (∃ v, e = .returned v) ∧
      ((∃ xs, Came R g0 N N xs ∧ J xs W') ∨ (∃ pre, (∃ k hk xs g, Came R g0 N k xs ∧ R g0 g ∧ g k = true ∧ pre = xs ++ [⟨k, hk⟩]) ∧ Jx pre W')) := by
  unfold setV at hBs
  refine callsIn_of_wp Try.func57 rfl hF ?_ hro
  simp only [Try.ntmps57, List.size_toArray, List.length_cons, List.length_nil, Nat.reduceAdd, Nat.reduceSub, Array.replicate_succ, Array.replicate_zero, List.push_toArray, List.append_toArray, List.nil_append, List.cons_append]
  gi_wp2
  gi_loopw [7] (fun i wr => ∃ (k : Nat) (pre : List (St N)) (g : Nat → Bool), k ≤ N ∧ i = .int .i64 k ∧ Came R g0 N k pre ∧ Hid (SetAt wr b N g) ∧ Hid (R g0 g) ∧ J pre wr)
    (fun i _ => N - (intOf i).toNat)
  case atStart => exact ⟨0, [], g0, Nat.zero_le _, rfl, came_nil _ _ _, Lib.hid hc, Lib.hid (hRr g0), h0⟩
  case round =>
    obtain ⟨k, pre, g, hk, rfl, hcm, hsg, hrg, hJs⟩ := hrel
    by_cases hlt : k < N
    · have hcx := hsg.out.cell (i := k) hlt
      have hcm' := came_step (k := k) hcm hlt hrg.out
      cases hgk : g k with
      | true =>
        rw [hgk] at hcx hcm'
        obtain ⟨fn, tmps, assign, body, hy, hR⟩ := hY _ ⟨k, hlt⟩ wr hJs (by have := came_len hcm; omega)
        unfold encS at hy
        dsimp only at hy
        gi_wp2
        refine hR.mono ?_
        rintro e W3 (⟨rfl, hJ3, hk3⟩ | ⟨rfl, hJx3⟩)
        · obtain ⟨g', hs', hr'⟩ := hk3 g hsg.out
          gi_wp2
          go_roundw
          case rel => exact ⟨k + 1, _, g', by omega, by simp, by simpa using hcm', Lib.hid hs', Lib.hid (hRt hrg.out hr'), hJ3⟩
          case measure => simp [intOf]; omega
        · gi_wp2
          refine bodyPost_ret (results_none rfl _ _ _) rfl ?_
          exact ⟨⟨_, rfl⟩, .inr ⟨_, ⟨k, hlt, pre, g, hcm, hrg.out, hgk, rfl⟩, hJx3⟩⟩
      | false =>
        rw [hgk] at hcx hcm'
        gi_wp2
        refine ⟨fun _ h => (by cases h), ?_⟩
        gi_wp2
        go_roundw
        case rel => exact ⟨k + 1, pre, g, by omega, by simp, by simpa using hcm', hsg, hrg, hJs⟩
        case measure => simp [intOf]; omega
    · obtain rfl : k = N := by omega
      gi_wp2
      go_end0
      exact ⟨⟨_, rfl⟩, .inl ⟨pre, hcm, hJs⟩⟩
end Go.Proofs.Ytchobpfdmkgnoaa
