/-
  What is proved: plain facts on sets of states (functions from numbers to bools): the closure, a step, what they come to for a glob and a string (the sets say what the glob's beginnings match), and their lists.
  What is proved: sets of states in memory (slices of bools), their list as an iterator (set.states: the rounds may change the set, as a relation says), and what slices.Collect makes of it: the list of the states, in a block of its own. What lay in memory before stands as it stood.
  What is proved: what set.states and slices.Collect return: the list of a set's states, in a block of its own. What lay in memory before stands as it stood.
  What is proved: an automaton in memory, and what its small methods return: isMade, end, States, counted, Pattern; at nil too.
-/
import Derived.Test.YtnpgmekgmelamaaGreatGlMath
import Derived.RangeFuncNested
import Derived.RangeFuncBound
import Derived.RangeFuncCalls
import Derived.RangeFuncLeaves
import Derived.Shelf.Abstract
import Derived.Shelf.RegionOpen
import Derived.WalkKit
import Derived.OwnWalkIn
import Derived.TacticsInMore
import Derived.LoopNIn
import Derived.LoopIn
import Derived.Maps.AppendAt
import Derived.Deep.OwnRows
import Derived.Test.YtnpgmekgmelamaaGreatGlCode
import Derived.BigCall
import Derived.BigQuiet
import Derived.Test.YtnpgmekgmelamaaGreatGlText
import Derived.LaidEqlPtr
namespace Go.Proofs.YtnpgmekgmelamaaGreat

/-- Is there a * at position i? -/
def isStar (B : List UInt8) (i : Nat) : Bool := B[i]? == some 42
/-- The closure. -/
def clo (B : List UInt8) (g : Nat → Bool) : Nat → Bool
  | 0 => g 0
  | i + 1 => g (i + 1) || (clo B g i && isStar B i)
/-- The arrow to the next position. -/
def goes (B : List UInt8) (c : UInt8) (i : Nat) : Bool := decide (i < B.length) && (!isStar B i && (B[i]? == some 63 || B[i]? == some c))
/-- A step, without the closure. -/
def mv (B : List UInt8) (c : UInt8) (g : Nat → Bool) : Nat → Bool
  | 0 => g 0 && isStar B 0
  | j + 1 => (g (j + 1) && isStar B (j + 1)) || (g j && goes B c j)
def stepF (B : List UInt8) (c : UInt8) (g : Nat → Bool) : Nat → Bool := clo B (mv B c g)
def startF (B : List UInt8) : Nat → Bool := clo B (fun i => decide (i = 0))
def runF (B : List UInt8) (t : List UInt8) (g : Nat → Bool) : Nat → Bool := t.foldl (fun g c => stepF B c g) g

theorem runF_snoc (B t : List UInt8) (c : UInt8) (g : Nat → Bool) : runF B (t ++ [c]) g = stepF B c (runF B t g) := by simp [runF]
theorem runF_cons (B t : List UInt8) (c : UInt8) (g : Nat → Bool) : runF B (c :: t) g = runF B t (stepF B c g) := by simp [runF]

theorem clo_congr {B : List UInt8} {g h : Nat → Bool} {n : Nat} (e : ∀ i, i < n → g i = h i) : ∀ i, i < n → clo B g i = clo B h i := by
  intro i
  induction i with
  | zero => intro hi; exact e 0 hi
  | succ i ih => intro hi; simp only [clo]; rw [e _ hi, ih (by omega)]
theorem mv_congr {B : List UInt8} {c : UInt8} {g h : Nat → Bool} {n : Nat} (e : ∀ i, i < n → g i = h i) : ∀ i, i < n → mv B c g i = mv B c h i := by
  intro i hi
  cases i with
  | zero => simp only [mv]; rw [e 0 hi]
  | succ i => simp only [mv]; rw [e _ hi, e i (by omega)]
theorem stepF_congr {B : List UInt8} {c : UInt8} {g h : Nat → Bool} {n : Nat} (e : ∀ i, i < n → g i = h i) : ∀ i, i < n → stepF B c g i = stepF B c h i := clo_congr (mv_congr e)

theorem clo_or (B : List UInt8) (g h : Nat → Bool) : ∀ i, clo B (fun j => g j || h j) i = (clo B g i || clo B h i) := by
  intro i
  induction i with
  | zero => rfl
  | succ i ih => simp only [clo]; rw [ih]; cases g (i + 1) <;> cases h (i + 1) <;> cases clo B g i <;> cases clo B h i <;> cases isStar B i <;> rfl
theorem mv_or (B : List UInt8) (c : UInt8) (g h : Nat → Bool) : ∀ i, mv B c (fun j => g j || h j) i = (mv B c g i || mv B c h i) := by
  intro i
  cases i with
  | zero => simp only [mv]; cases g 0 <;> cases h 0 <;> cases isStar B 0 <;> rfl
  | succ i => simp only [mv]; cases g (i + 1) <;> cases h (i + 1) <;> cases g i <;> cases h i <;> cases isStar B (i + 1) <;> cases goes B c i <;> rfl
theorem stepF_or (B : List UInt8) (c : UInt8) (g h : Nat → Bool) (i : Nat) : stepF B c (fun j => g j || h j) i = (stepF B c g i || stepF B c h i) := by
  unfold stepF
  rw [clo_congr (n := i + 1) (fun j _ => mv_or B c g h j) i (by omega), clo_or]

/-! What the sets say -/
theorem rowS (p t : List UInt8) (d : UInt8) : mt false (p ++ [42]) (t ++ [d]) = (mt false p (t ++ [d]) || mt false (p ++ [42]) t) := by
  have := row_star p (t ++ [d]) t.length (by simp)
  rwa [List.take_of_length_le (by simp), List.take_left' rfl] at this
theorem rowO (p t : List UInt8) (c d : UInt8) (hc : c ≠ 42) : mt false (p ++ [c]) (t ++ [d]) = (mt false p t && (c == 63 || c == d)) := by
  have := row_one p c hc (t ++ [d]) t.length (by simp)
  rw [List.take_of_length_le (by simp), List.take_left' rfl] at this
  simpa using this

/-- Are the first i positions gone through by t? -/
def mi (B : List UInt8) (t : List UInt8) (i : Nat) : Bool := mt false (B.take i) t
def saysF (B t : List UInt8) (i : Nat) : Bool := if isStar B i then mi B t (i + 1) else mi B t i

theorem take_at {B : List UInt8} {i : Nat} {c : UInt8} (h : B[i]? = some c) : B.take (i + 1) = B.take i ++ [c] := by
  rw [List.take_add_one, h]; rfl
theorem star_at {B : List UInt8} {i : Nat} (h : isStar B i = true) : B[i]? = some 42 := by simpa [isStar] using h

theorem says_start (B : List UInt8) : ∀ i, i ≤ B.length → saysF B [] i = startF B i := by
  have h0 : mi B [] 0 = true := by simp [mi, mt]
  have h1 : ∀ i, i < B.length → mi B [] (i + 1) = (isStar B i && mi B [] i) := by
    intro i hi
    obtain ⟨c, hc⟩ : ∃ c, B[i]? = some c := ⟨_, List.getElem?_eq_getElem hi⟩
    unfold mi
    rw [take_at hc]
    by_cases e : c = 42
    · subst e; rw [row_star0]; simp [isStar, hc]
    · rw [row_one0 _ _ e]; simp [isStar, hc, e]
  have hs : ∀ i, i ≤ B.length → saysF B [] i = mi B [] i := by
    intro i hi
    unfold saysF
    cases e : isStar B i with
    | false => rfl
    | true =>
      have hl : i < B.length := by
        have := star_at e
        exact (List.getElem?_eq_some_iff.1 this).1
      rw [if_pos rfl, h1 i hl, e]; rfl
  intro i
  induction i with
  | zero => intro _; rw [hs 0 (by omega), h0]; rfl
  | succ i ih =>
    intro hi
    have ih' := ih (by omega)
    rw [hs _ hi, h1 i (by omega), ← hs i (by omega), ih']
    simp [startF, clo]
    rw [Bool.and_comm]

theorem says_step (B t : List UInt8) (d : UInt8) : ∀ i, i ≤ B.length → saysF B (t ++ [d]) i = stepF B d (saysF B t) i := by
  have h0 : mi B (t ++ [d]) 0 = false := by
    unfold mi; rw [List.take_zero]; cases t <;> rfl
  intro i
  induction i with
  | zero =>
    intro _
    show _ = (saysF B t 0 && isStar B 0)
    cases e : isStar B 0 with
    | false => simp only [saysF, e]; simpa using h0
    | true =>
      simp only [saysF, e, if_true, Bool.and_true]
      unfold mi
      rw [take_at (star_at e), rowS]
      have : mt false (B.take 0) (t ++ [d]) = false := h0
      rw [this]; rfl
  | succ i ih =>
    intro hi
    have hl : i < B.length := by omega
    have ih' := ih (by omega)
    have hm : mi B (t ++ [d]) (i + 1) = ((saysF B t i && goes B d i) || (stepF B d (saysF B t) i && isStar B i)) := by
      cases e : isStar B i with
      | true =>
        have hg : goes B d i = false := by unfold goes; rw [e]; simp
        rw [hg, ← ih', Bool.and_false, Bool.false_or, Bool.and_true]
        simp only [saysF, e, if_true]
      | false =>
        obtain ⟨c, hc⟩ : ∃ c, B[i]? = some c := ⟨_, List.getElem?_eq_getElem hl⟩
        have hc42 : c ≠ 42 := by
          intro e2; subst e2
          rw [isStar, hc] at e; exact absurd e (by decide)
        have hg : goes B d i = (c == 63 || c == d) := by
          unfold goes; rw [e, hc, decide_eq_true hl]
          simp
        rw [Bool.and_false, Bool.or_false, hg]
        simp only [saysF, e]
        unfold mi
        rw [take_at hc, rowO _ _ _ _ hc42]; rfl
    show _ = (mv B d (saysF B t) (i + 1) || (stepF B d (saysF B t) i && isStar B i))
    simp only [mv]
    cases e : isStar B (i + 1) with
    | false =>
      rw [show saysF B (t ++ [d]) (i + 1) = mi B (t ++ [d]) (i + 1) by simp only [saysF, e]; rfl, hm]
      cases saysF B t (i + 1) <;> simp
    | true =>
      have hS : saysF B t (i + 1) = mi B t (i + 2) := by simp only [saysF, e, if_true]
      rw [show saysF B (t ++ [d]) (i + 1) = mi B (t ++ [d]) (i + 2) by simp only [saysF, e, if_true]]
      have hr : mi B (t ++ [d]) (i + 2) = (mi B (t ++ [d]) (i + 1) || mi B t (i + 2)) := by
        unfold mi; rw [take_at (star_at e), rowS]
      rw [hr, hm, hS]
      cases mi B t (i + 2) <;> cases saysF B t i <;> cases goes B d i <;> cases stepF B d (saysF B t) i <;> cases isStar B i <;> rfl

theorem run_says (B : List UInt8) : ∀ (t : List UInt8) (i : Nat), i ≤ B.length → runF B t (startF B) i = saysF B t i := by
  have key : ∀ (n : Nat) (t : List UInt8), t.length = n → ∀ i, i ≤ B.length → runF B t (startF B) i = saysF B t i := by
    intro n
    induction n with
    | zero =>
      intro t ht i hi
      have : t = [] := by simpa using ht
      subst this
      exact (says_start B i hi).symm
    | succ n ih =>
      intro t ht i hi
      obtain ⟨u, d, rfl⟩ : ∃ u d, t = u ++ [d] := ⟨t.dropLast, t.getLast (by intro e; simp [e] at ht), (List.dropLast_concat_getLast _).symm⟩
      have hu : u.length = n := by simpa using ht
      rw [runF_snoc, says_step B u d i hi]
      exact stepF_congr (n := B.length + 1) (fun j hj => ih u hu j (by omega)) i (by omega)
  exact fun t i hi => key t.length t rfl i hi

/-- At the end: what the glob matches. -/
theorem run_end (B t : List UInt8) : runF B t (startF B) B.length = mt false B t := by
  rw [run_says B t _ (Nat.le_refl _)]
  have : isStar B B.length = false := by simp [isStar]
  simp only [saysF, this]
  unfold mi
  rw [List.take_length]; rfl

/-! Bytes as they count -/
def cntL (f : Bool) (l : List UInt8) : List UInt8 := if f then foldL l else l
def cntC (f : Bool) (c : UInt8) : UInt8 := if f then foldC c else c
theorem cntL_len (f : Bool) (l : List UInt8) : (cntL f l).length = l.length := by cases f <;> simp [cntL, foldL]
theorem cntL_at (f : Bool) (l : List UInt8) (i : Nat) : (cntL f l)[i]? = l[i]?.map (cntC f) := by
  cases f with
  | false =>
    show l[i]? = Option.map (fun c => c) l[i]?
    cases l[i]? <;> rfl
  | true =>
    show (l.map foldC)[i]? = Option.map foldC l[i]?
    rw [List.getElem?_map]
theorem cnt_mt (f : Bool) (p t : List UInt8) : mt f p t = mt false (cntL f p) (cntL f t) := by
  cases f with
  | false => rfl
  | true => exact mt_fold p t
theorem cnt_snoc (f : Bool) (t : List UInt8) (c : UInt8) : cntL f (t ++ [c]) = cntL f t ++ [cntC f c] := by cases f <;> simp [cntL, cntC, foldL]
theorem cnt_one (f : Bool) (c : UInt8) : cntL f [c] = [cntC f c] := by cases f <;> simp [cntL, cntC, foldL]

/-! A rising list of states -/
def listF (n : Nat) (g : Nat → Bool) : List Nat := (List.range n).filter g
def intsF (n : Nat) (g : Nat → Bool) : List Int := (listF n g).map Int.ofNat
theorem listF_congr {n : Nat} {g h : Nat → Bool} (e : ∀ i, i < n → g i = h i) : listF n g = listF n h := by
  unfold listF
  apply List.filter_congr
  intro i hi
  exact e i (by simpa using hi)
theorem intsF_congr {n : Nat} {g h : Nat → Bool} (e : ∀ i, i < n → g i = h i) : intsF n g = intsF n h := by
  unfold intsF; rw [listF_congr e]
theorem listF_succ (n : Nat) (g : Nat → Bool) : listF (n + 1) g = listF n g ++ if g n then [n] else [] := by
  unfold listF
  rw [List.range_succ, List.filter_append]
  congr 1
  cases h : g n <;> simp [h]
theorem listF_len (n : Nat) (g : Nat → Bool) : (listF n g).length ≤ n := by
  unfold listF
  have := List.length_filter_le g (List.range n)
  simpa using this
theorem intsF_len (n : Nat) (g : Nat → Bool) : (intsF n g).length ≤ n := by unfold intsF; rw [List.length_map]; exact listF_len n g
theorem mem_listF {n : Nat} {g : Nat → Bool} {i : Nat} : i ∈ listF n g ↔ i < n ∧ g i = true := by simp [listF]
theorem mem_intsF {n : Nat} {g : Nat → Bool} {x : Int} : x ∈ intsF n g ↔ ∃ i : Nat, x = i ∧ i < n ∧ g i = true := by
  unfold intsF
  rw [List.mem_map]
  constructor
  · rintro ⟨i, h, e⟩; exact ⟨i, e.symm, mem_listF.1 h⟩
  · rintro ⟨i, e, h⟩; exact ⟨i, mem_listF.2 h, e.symm⟩
/-- Is state i in the list l? -/
def inL (l : List Int) (i : Nat) : Bool := l.contains (i : Int)
theorem inL_ints {n : Nat} {g : Nat → Bool} {i : Nat} (hi : i < n) : inL (intsF n g) i = g i := by
  apply bool_iff
  unfold inL
  rw [List.contains_iff_mem, mem_intsF]
  constructor
  · rintro ⟨j, e, _, h⟩; have : j = i := by omega
    rwa [this] at h
  · intro h; exact ⟨i, rfl, hi, h⟩
theorem inL_app (l m : List Int) (i : Nat) : inL (l ++ m) i = (inL l i || inL m i) := by simp [inL]
end Go.Proofs.YtnpgmekgmelamaaGreat

namespace Go.Proofs.YtnpgmekgmelamaaGreat
open Go.RowKit Go.Shelf
attribute [local go_sem] Oper.semAt_some

/-- Block b holds the set g of n states. -/
def SetAt (W : World) (b n : Nat) (g : Nat → Bool) : Prop := W.rowIs b 4 n (fun i => .bool (g i))
def setV (b n : Nat) : Value := .slice (some ⟨b, 0, none⟩) n n
theorem SetAt.congr {W : World} {b n : Nat} {g h : Nat → Bool} (hs : SetAt W b n g) (e : ∀ i, i < n → g i = h i) : SetAt W b n h := World.rowIs.congr hs (fun i hi => by rw [e i hi])
theorem SetAt.lt {W : World} {b n : Nat} {g : Nat → Bool} (hs : SetAt W b n g) : b < W.heap.size := World.rowIs.lt hs
theorem SetAt.of_block {W W' : World} {b n : Nat} {g : Nat → Bool} (hs : SetAt W b n g) (e : W'.heap[b]? = W.heap[b]?) : SetAt W' b n g := World.rowIs.of_block hs e
theorem SetAt.below {W W' : World} {b n B : Nat} {g : Nat → Bool} (hs : SetAt W b n g) (h : Below B W W') (hb : b < B) : SetAt W' b n g := hs.of_block (h.block b hb)
theorem SetAt.cells {W : World} {b n : Nat} {g : Nat → Bool} (hs : SetAt W b n g) : ∃ o : Obj, W.heap[b]? = some o ∧ o.isCells = true := by
  obtain ⟨c, hc, _⟩ := hs
  exact ⟨_, hc, rfl⟩
theorem SetAt.add {W : World} {b n : Nat} {g : Nat → Bool} (hs : SetAt W b n g) (i : Nat) : SetAt (W.setCell ⟨b, i, none⟩ (.bool true)) b n (fun j => if j = i then true else g j) :=
  World.rowIs.congr (World.rowIs.set hs i _) (fun j _ => by by_cases e : j = i <;> simp [e])
theorem SetAt.other {W : World} {b n : Nat} {g : Nat → Bool} (hs : SetAt W b n g) (a : Addr) (v : Value) (h : b ≠ a.block) : SetAt (W.setCell a v) b n g := World.rowIs.setOther hs h v
theorem boxed_other {W : World} {B : Nat} {t : TypeId} {v : Value} (h : Boxed W B t v) (a : Addr) (u : Value) (hne : B ≠ a.block) : Boxed (W.setCell a u) B t v := (Below.heap_setCell _ _ _ _ hne).trans h
theorem setAt_own {β : Type} (b n : Nat) (f : β → Nat → Bool) : Own (fun s W => SetAt W b n (f s)) := fun s X Y row hs hg hr => by
  refine SetAt.of_block hs (hg.block b (SetAt.lt hs) (fun e => ?_))
  obtain ⟨o, ho, hc⟩ := hr b e.symm
  obtain ⟨o', ho', hc'⟩ := SetAt.cells hs
  rw [ho] at ho'; cases ho'; rw [hc] at hc'; cases hc'

/-- A state of n. -/
abbrev St (n : Nat) := { x : Nat // x < n }
def encS {n : Nat} (x : St n) : Array Value := #[Value.int .i64 (x.1 : Int)]

/-- What a round that goes on keeps: the set, but for what R allows. -/
def KeepsSet (R : (Nat → Bool) → (Nat → Bool) → Prop) (b n : Nat) (W W' : World) : Prop := ∀ g, SetAt W b n g → ∃ g', SetAt W' b n g' ∧ R g g'
theorem keepsSet_t {R : (Nat → Bool) → (Nat → Bool) → Prop} (hR : ∀ {f g h}, R f g → R g h → R f h) {b n : Nat} {A B C : World} (h : KeepsSet R b n A B) (k : KeepsSet R b n B C) : KeepsSet R b n A C := fun g hg => by
  obtain ⟨g1, h1, r1⟩ := h g hg
  obtain ⟨g2, h2, r2⟩ := k g1 h1
  exact ⟨g2, h2, hR r1 r2⟩
theorem keepsSet_b {R : (Nat → Bool) → (Nat → Bool) → Prop} (hR : ∀ g, R g g) {b n : Nat} {w : World} (hb : b < w.heap.size) (W : World) (l : Nat) (o o' : Obj) (hl : w.heap.size ≤ l) (_ : W.heap[l]? = some o) (_ : o.isCells = false) (_ : o.isWalk = false) : KeepsSet R b n W (W.putObj l o') :=
  fun g hg => ⟨g, hg.of_block (World.putObj_heap_other (by omega)), hR g⟩
theorem keepsSet_below {R : (Nat → Bool) → (Nat → Bool) → Prop} (hR : ∀ g, R g g) {b n B : Nat} {W W' : World} (h : Below B W W') (hb : b < B) : KeepsSet R b n W W' := fun g hg => ⟨g, hg.below h hb, hR g⟩
theorem keepsSet_same {R : (Nat → Bool) → (Nat → Bool) → Prop} (hR : ∀ g, R g g) {b n : Nat} {W W' : World} (h : W'.heap[b]? = W.heap[b]?) : KeepsSet R b n W W' := fun g hg => ⟨g, hg.of_block h, hR g⟩

/-- What has come when the first k positions are gone through: at each the set was as R allows. -/
def Came (R : (Nat → Bool) → (Nat → Bool) → Prop) (g0 : Nat → Bool) (n k : Nat) (xs : List (St n)) : Prop :=
  ∃ h : Nat → Bool, xs.map Subtype.val = listF k h ∧ ∀ i, i < k → ∃ g, R g0 g ∧ h i = g i
theorem came_nil (R : (Nat → Bool) → (Nat → Bool) → Prop) (g0 : Nat → Bool) (n : Nat) : Came R g0 n 0 [] := ⟨g0, rfl, fun i hi => absurd hi (Nat.not_lt_zero i)⟩
theorem came_len {R : (Nat → Bool) → (Nat → Bool) → Prop} {g0 : Nat → Bool} {n k : Nat} {xs : List (St n)} (h : Came R g0 n k xs) : xs.length ≤ k := by
  obtain ⟨h, e, _⟩ := h
  have := listF_len k h
  rw [← e, List.length_map] at this
  exact this
theorem came_step {R : (Nat → Bool) → (Nat → Bool) → Prop} {g0 g : Nat → Bool} {n k : Nat} {xs : List (St n)} (h : Came R g0 n k xs) (hk : k < n) (hr : R g0 g) :
    Came R g0 n (k + 1) (xs ++ if g k then [⟨k, hk⟩] else []) := by
  obtain ⟨h, e, hh⟩ := h
  refine ⟨fun i => if i = k then g k else h i, ?_, fun i hi => ?_⟩
  · rw [listF_succ, List.map_append, e]
    congr 1
    · exact listF_congr fun i hi => by rw [if_neg (by omega)]
    · simp only [if_true]
      cases g k <;> rfl
  · by_cases ei : i = k
    · subst ei; exact ⟨g, hr, by simp⟩
    · simp only [if_neg ei]; exact hh i (by omega)
theorem came_eq {g0 : Nat → Bool} {n k : Nat} {xs : List (St n)} (h : Came (· = ·) g0 n k xs) : xs.map Subtype.val = listF k g0 := by
  obtain ⟨h, e, hh⟩ := h
  rw [e]
  exact listF_congr fun i hi => by obtain ⟨g, rfl, e⟩ := hh i hi; exact e

set_option maxRecDepth 100000 in
set_option maxHeartbeats 2000000 in
/-- The iterator. -/
theorem states1_in (F : Fence) (n : Nat) (hF : F.fn 135) (hro : F.round = none) (hn : 1 ≤ n) (l Bs b N : Nat) (R : (Nat → Bool) → (Nat → Bool) → Prop) (hRr : ∀ g, R g g) (hRt : ∀ {f g h}, R f g → R g h → R f h) (g0 : Nat → Bool) (hN : N ≤ 1000000)
    (J Jx : List (St N) → World → Prop)
    (hY : ∀ pre x W, J pre W → pre.length < N → YieldAt F (n - 1) Tryz.prog l (encS x) W fun e W' =>
      (e = .returned (.bool true) ∧ J (pre ++ [x]) W' ∧ KeepsSet R b N W W') ∨ (e = .returned (.bool false) ∧ Jx (pre ++ [x]) W'))
    (W : World) (hBs : W.cell? ⟨Bs, 0, none⟩ = some (setV b N)) (hc : SetAt W b N g0) (h0 : J [] W) :
    CallsIn F n Tryz.prog 135 #[.func (.yield l) #[] #[], .pointer (some ⟨Bs, 0, none⟩)] W fun e W' => (∃ v, e = .returned v) ∧
      ((∃ xs, Came R g0 N N xs ∧ J xs W') ∨ (∃ pre, (∃ k hk xs g, Came R g0 N k xs ∧ R g0 g ∧ g k = true ∧ pre = xs ++ [⟨k, hk⟩]) ∧ Jx pre W')) := by
  unfold setV at hBs
  refine callsIn_of_wp Tryz.func135 rfl hF ?_ hro
  simp only [Tryz.ntmps135, List.size_toArray, List.length_cons, List.length_nil, Nat.reduceAdd, Nat.reduceSub, Array.replicate_succ, Array.replicate_zero, List.push_toArray, List.append_toArray, List.nil_append, List.cons_append]
  gi_wp2
  gi_loopw [7] (fun i wr => ∃ (k : Nat) (pre : List (St N)) (g : Nat → Bool), k ≤ N ∧ i = .int .i64 k ∧ Came R g0 N k pre ∧ Hid (SetAt wr b N g) ∧ Hid (R g0 g) ∧ J pre wr)
    (fun i _ => N - (intOf i).toNat)
  case atStart => exact ⟨0, [], g0, Nat.zero_le _, rfl, came_nil _ _ _, Lib.hid hc, Lib.hid (hRr g0), h0⟩
  case round =>
    obtain ⟨k, pre, g, hk, rfl, hcm, hsg, hrg, hJs⟩ := hrel
    by_cases hlt : k < N
    · have hcx := hsg.out.cell (i := k) hlt
      have hcm' := came_step (k := k) hcm hlt hrg.out
      cases hgk : g k with
      | true =>
        rw [hgk] at hcx hcm'
        obtain ⟨fn, tmps, assign, body, hy, hR⟩ := hY _ ⟨k, hlt⟩ wr hJs (by have := came_len hcm; omega)
        unfold encS at hy
        dsimp only at hy
        gi_wp2
        refine hR.mono ?_
        rintro e W3 (⟨rfl, hJ3, hk3⟩ | ⟨rfl, hJx3⟩)
        · obtain ⟨g', hs', hr'⟩ := hk3 g hsg.out
          gi_wp2
          go_roundw
          case rel => exact ⟨k + 1, _, g', by omega, by simp, by simpa using hcm', Lib.hid hs', Lib.hid (hRt hrg.out hr'), hJ3⟩
          case measure => simp [intOf]; omega
        · gi_wp2
          refine bodyPost_ret (results_none rfl _ _ _) rfl ?_
          exact ⟨⟨_, rfl⟩, .inr ⟨_, ⟨k, hlt, pre, g, hcm, hrg.out, hgk, rfl⟩, hJx3⟩⟩
      | false =>
        rw [hgk] at hcx hcm'
        gi_wp2
        refine ⟨fun _ h => (by cases h), ?_⟩
        gi_wp2
        go_roundw
        case rel => exact ⟨k + 1, pre, g, by omega, by simp, by simpa using hcm', hsg, hrg, hJs⟩
        case measure => simp [intOf]; omega
    · obtain rfl : k = N := by omega
      gi_wp2
      go_end0
      exact ⟨⟨_, rfl⟩, .inl ⟨pre, hcm, hJs⟩⟩
end Go.Proofs.YtnpgmekgmelamaaGreat

namespace Go.Proofs.YtnpgmekgmelamaaGreat
open Go.RowKit Go.Shelf
attribute [local go_sem] Oper.semAt_some

theorem info_int : (Tryz.prog.info? 3).map (fun i => (i.zero, i.size, i.bytes)) = some (some (.int .i64 0), 1, 8) := by kernel_rfl

set_option maxHeartbeats 1000000 in
/-- set.states: the set is boxed; the function value captures the box. -/
theorem states_any (a : Option Addr) (len cap : Nat) (w : World) :
    Calls Tryz.prog 114 #[.slice a len cap] w fun e w' => e = .returned (.func (.func 135) #[] #[.pointer (some ⟨w.heap.size, 0, none⟩)]) ∧ w' = w.alloc (.cells #[.slice a len cap] 153) := by
  have hmf : ∀ (fn : Fn) (first cap : Array Value) (w : World), (Instr.makeFunc fn first cap).run Tryz.prog w = .ok (.func fn first cap) w := fun _ _ _ _ => rfl
  go_enter Tryz.func114, Tryz.ntmps114
  go_wp2
  go_ret
  exact ⟨rfl, rfl⟩

/-- The iterator over a set, told for a caller. -/
theorem states_stops (F : Fence) (n : Nat) (hF : F.fn 135) (hro : F.round = none) (hn : 1 ≤ n) (Bs b N : Nat) (R : (Nat → Bool) → (Nat → Bool) → Prop) (hRr : ∀ g, R g g) (hRt : ∀ {f g h}, R f g → R g h → R f h) (g0 : Nat → Bool) (hN : N ≤ 1000000)
    (w : World) (hB : Bs < w.heap.size) (hBs : w.cell? ⟨Bs, 0, none⟩ = some (setV b N)) (hc : SetAt w b N g0) :
    SeqStopsK F n Tryz.prog 135 #[.pointer (some ⟨Bs, 0, none⟩)] (encS (n := N)) (KeepsSet R b N) (fun xs => Came R g0 N N xs)
      (fun pre => ∃ k hk xs g, Came R g0 N k xs ∧ R g0 g ∧ g k = true ∧ pre = xs ++ [⟨k, hk⟩]) N w := fun l J Jx W hW _ _ hY h0 =>
  states1_in F n hF hro hn l Bs b N R hRr hRt g0 hN J Jx hY W ((hW.cell (p := ⟨Bs, 0, none⟩) hB).trans hBs) (hc.below hW hc.lt) h0

def vals {n : Nat} (xs : List (St n)) : List Value := xs.map (fun x => Value.int .i64 (x.1 : Int))
theorem vals_snoc {n : Nat} (xs : List (St n)) (x : St n) : vals (xs ++ [x]) = vals xs ++ [Value.int .i64 (x.1 : Int)] := by simp [vals]
theorem vals_len {n : Nat} (xs : List (St n)) : (vals xs).length = xs.length := by simp [vals]
theorem vals_ints {n k : Nat} {xs : List (St n)} {g : Nat → Bool} (h : xs.map Subtype.val = listF k g) : vals xs = (intsF k g).map (Value.int .i64) ∧ xs.length = (intsF k g).length := by
  constructor
  · unfold vals intsF
    rw [← h]
    simp
  · unfold intsF
    rw [← h]
    simp

set_option maxRecDepth 100000 in
set_option maxHeartbeats 2000000 in
theorem appendSeq_in (F : Fence) (n : Nat) (h47 : F.fn 123) (h49 : F.fn 135) (hro : F.round = none) (hn : 3 ≤ n) (Bs b N : Nat) (g0 : Nat → Bool) (hN : N ≤ 1000000)
    (w : World) (hB : Bs < w.heap.size) (hBs : w.cell? ⟨Bs, 0, none⟩ = some (setV b N)) (hc : SetAt w b N g0) :
    CallsIn F n Tryz.prog 123 #[.slice none 0 0, .func (.func 135) #[] #[.pointer (some ⟨Bs, 0, none⟩)]] w fun e W' =>
      ∃ v, e = .returned v ∧ W'.ownsRow w.heap.size 3 1 v (intsF N g0).length ((intsF N g0).map (Value.int .i64)) ∧ Below w.heap.size w W' := by
  have h1 : 1 ≤ n := by omega
  have hbl := hc.lt
  obtain ⟨i0, hi, hz0, hz1, hz2⟩ := info_parts info_int
  refine callsIn_of_wp_marks Tryz.func123 rfl h47 ?_ hro
  simp only [Tryz.ntmps123, List.size_toArray, List.length_cons, List.length_nil, Nat.reduceAdd, Nat.reduceSub, Array.replicate_succ, Array.replicate_zero, List.push_toArray, List.append_toArray, List.nil_append, List.cons_append]
  gi_wp2
  have bO := Boxed.new w 22 (.slice none 0 0)
  have hB0 : Below w.heap.size w (w.alloc (.cells #[.slice none 0 0] 22)) := (Below.refl _ w).alloc (Nat.le_refl _) _
  refine wpIn_rangeFunc_ownG hro h1 (gf := 135) (lb := #[.pointer (some ⟨Bs, 0, none⟩)]) rfl h49 (enters_of Tryz.func135 (by kernel_rfl) rfl)
    (states_stops F (n - 1) h49 hro (by omega) Bs b N (· = ·) (fun _ => rfl) (fun h k => h.trans k) g0 hN _ (by simp; omega) ((hB0.cell (p := ⟨Bs, 0, none⟩) hB).trans hBs) (hc.below hB0 hbl)) (keepsSet_t (fun h k => h.trans k)) (keepsSet_b (fun _ => rfl) (by simp; omega)) (Below.refl _ _) (fun _ => rfl)
    (fun pre W => (∃ v, Boxed W w.heap.size 22 v ∧ W.ownsRow w.heap.size 3 1 v (vals pre).length (vals pre) ∧ True) ∧ Below w.heap.size w W)
    (fun _ _ _ => False)
    (OwnFrom.and (Own.from (holdsRow_own w.heap.size w.heap.size 22 3 1 (fun pre => (vals pre).length) (fun pre => vals pre) (fun _ _ => True)) _) (ownFrom_below (Nat.le_refl _) (by simp)))
    (fun _ _ _ _ _ hs _ _ => hs)
    ⟨⟨_, bO, World.ownsRow_nil _ _ _ _, trivial⟩, hB0⟩
    (fun x => { tmps := #[.slice none 0 0, .func (.func 135) #[] #[.pointer (some ⟨Bs, 0, none⟩)], .pointer (some ⟨w.heap.size, 0, none⟩), undef, .slice none 0 0, .int .i64 (x.1 : Int), .func (.func 135) #[] #[.pointer (some ⟨Bs, 0, none⟩)], .int .i64 (x.1 : Int), undef, undef, undef, undef, undef], defers := [] }) ?assign ?body ?done ?stop
  case assign =>
    intro l x W K hK
    unfold encS
    gi_wp2
    exact hK
  case body =>
    rintro l pre x W ⟨⟨v, hv, hrow, _⟩, hBW⟩ hlt
    have hc := hv.cell
    have hf := hv.frozen
    have hpl : (vals pre).length < 1000000 := by rw [vals_len]; omega
    have hbs := hBW.size
    gi_wp2_with (gi_at_builtin; refine wpListIn_append_own _ rfl _ _ 22 rfl w.heap.size 3 i0 (.int .i64 0) 1 8 Tryz.underlying22 hi hz0 hz1 hz2 rfl (by decide) _ _ _ rfl (hrow.alloc _) ⟨W.heap.size, 0, none⟩ 1 1 [.int .i64 (x.1 : Int)] rfl rfl (cell_one_new _ _ _) (by simp [Value.oneCell']) (by unfold maxLen; omega) (by omega) (by have := hBW.size; simp; omega) ?_; intro v' w1 hown' hgrow _; obtain ⟨g', cap', rfl⟩ := ownsRow_succ hown'; obtain ⟨hv1, hv2, hr2, hk2, hb2⟩ := hv.appended (by decide) hrow hBW.size (Nat.le_refl _) hown' hgrow; have hc1 := hv1.cell; have hf1 := hv1.frozen)
    exact ⟨hk2.from _, keepsSet_below (fun _ => rfl) hb2 hbl, ⟨_, hv2, by rw [vals_snoc, List.length_append, List.length_singleton]; exact hr2, trivial⟩, hBW.trans hb2⟩
  case done =>
    rintro D ys W hD hcm ⟨⟨v, hv, hrow, _⟩, hBW⟩ hK
    have hc := hv.cell
    gi_wp2
    refine ⟨by simp, .inl ⟨_, _, rfl, run_takeDeferred hK, ?_⟩⟩
    obtain ⟨e1, e2⟩ := vals_ints (came_eq hcm)
    rw [vals_len, e2, e1] at hrow
    exact ⟨_, results_tmp rfl _ _ _, v, rfl, ownsRow_putObj hrow _ hK rfl, hBW.trans (belowK_b (w := w) (Nat.le_refl _) W D _ _ (by simp at hD; omega) hK rfl rfl)⟩
  case stop =>
    rintro D c pre W _ _ h _
    exact h.elim

/-- slices.Collect(s.states()): behind the making of the iterator. -/
theorem collect_any (Bs b N : Nat) (g0 : Nat → Bool) (hN : N ≤ 1000000) (w : World) (hB : Bs < w.heap.size) (hBs : w.cell? ⟨Bs, 0, none⟩ = some (setV b N)) (hc : SetAt w b N g0) :
    Calls Tryz.prog 99 #[.func (.func 135) #[] #[.pointer (some ⟨Bs, 0, none⟩)]] w fun e W' =>
      ∃ v, e = .returned v ∧ W'.ownsRow w.heap.size 3 1 v (intsF N g0).length ((intsF N g0).map (Value.int .i64)) ∧ Below w.heap.size w W' := by
  have C := Lib.hid (callsIn_wide.1 (appendSeq_in Fence.wide 3 trivial trivial rfl (by omega) Bs b N g0 hN w hB hBs hc))
  go_enter Tryz.func99, Tryz.ntmps99
  go_wp2_with (go_at_call 123; refine C.out.mono ?_; rintro e w' ⟨v, rfl, hr, hb⟩)
  go_ret
  exact ⟨v, rfl, hr, hb⟩
end Go.Proofs.YtnpgmekgmelamaaGreat

namespace Go.Proofs.YtnpgmekgmelamaaGreat
open Go.RowKit Go.Shelf

/-- Block b holds the automaton of the normal form P, with Fold or without. -/
def NfaAt (W : World) (b : Nat) (P : List UInt8) (f : Bool) : Prop :=
  W.heap[b]? = some (.cells #[.pointer (some ⟨b, 0, none⟩), .string (str P), .bool f, .string (str (cntL f P))] 125 (0, 0))
theorem NfaAt.lt {W : World} {b : Nat} {P : List UInt8} {f : Bool} (h : NfaAt W b P f) : b < W.heap.size := (Array.getElem?_eq_some_iff.1 h).1
theorem NfaAt.below {W W' : World} {b B : Nat} {P : List UInt8} {f : Bool} (h : NfaAt W b P f) (hb : Below B W W') (hlt : b < B) : NfaAt W' b P f := (hb.block b hlt).trans h
theorem NfaAt.same {W W' : World} {b : Nat} {P : List UInt8} {f : Bool} (h : NfaAt W b P f) (e : W'.heap[b]? = W.heap[b]?) : NfaAt W' b P f := e.trans h
theorem NfaAt.c0 {W : World} {b : Nat} {P : List UInt8} {f : Bool} (h : NfaAt W b P f) : W.cell? ⟨b, 0, none⟩ = some (.pointer (some ⟨b, 0, none⟩)) := by simp [World.cell?, show W.heap[b]? = _ from h]
theorem NfaAt.c1 {W : World} {b : Nat} {P : List UInt8} {f : Bool} (h : NfaAt W b P f) : W.cell? ⟨b, 1, none⟩ = some (.string (str P)) := by simp [World.cell?, show W.heap[b]? = _ from h]
theorem NfaAt.c2 {W : World} {b : Nat} {P : List UInt8} {f : Bool} (h : NfaAt W b P f) : W.cell? ⟨b, 2, none⟩ = some (.bool f) := by simp [World.cell?, show W.heap[b]? = _ from h]
theorem NfaAt.c3 {W : World} {b : Nat} {P : List UInt8} {f : Bool} (h : NfaAt W b P f) : W.cell? ⟨b, 3, none⟩ = some (.string (str (cntL f P))) := by simp [World.cell?, show W.heap[b]? = _ from h]
def nfaP (b : Nat) : Value := .pointer (some ⟨b, 0, none⟩)

theorem info_nfa : (Tryz.prog.info? 125).isSome = true := by kernel_rfl
theorem same_ptr (a : Addr) (w : World) : (binOp .eql 72 (.pointer (some a)) (.pointer (some a))).run Tryz.prog w = .ok (.bool true) w := by
  obtain ⟨j, hj⟩ := Option.isSome_iff_exists.1 info_nfa
  exact run_eql_ptr_same w a Tryz.underlying72 hj

theorem isMade_any {w : World} {b : Nat} {P : List UInt8} {f : Bool} (h : NfaAt w b P f) :
    Calls Tryz.prog 112 #[.pointer (some ⟨b, 0, none⟩)] w fun e w' => e = .returned (.bool true) ∧ w' = w := by
  have c0 := h.c0
  have hpe := fun w => same_ptr ⟨b, 0, none⟩ w
  go_enter Tryz.func112, Tryz.ntmps112
  go_wp2
  go_ret
  exact ⟨rfl, rfl⟩

theorem isMade_nil (w : World) :
    Calls Tryz.prog 112 #[.pointer none] w fun e w' => e = .returned (.bool false) ∧ w' = w := by
  go_enter Tryz.func112, Tryz.ntmps112
  go_wp2
  go_ret
  exact ⟨rfl, rfl⟩

theorem len_str (l : List UInt8) : ((str l).size : Int) = (l.length : Int) := by rw [str_size]

theorem end_any {w : World} {b : Nat} {P : List UInt8} {f : Bool} (h : NfaAt w b P f) :
    Calls Tryz.prog 118 #[.pointer (some ⟨b, 0, none⟩)] w fun e w' => e = .returned (.int .i64 (P.length : Int)) ∧ w' = w := by
  have c1 := h.c1
  have hl := len_str P
  go_enter Tryz.func118, Tryz.ntmps118
  go_wp2
  go_ret
  exact ⟨rfl, rfl⟩

theorem sizes_any {w : World} {b : Nat} {P : List UInt8} {f : Bool} (h : NfaAt w b P f) (hP : P.length ≤ 1000000) :
    Calls Tryz.prog 133 #[.pointer (some ⟨b, 0, none⟩)] w fun e w' => e = .returned (.int .i64 ((P.length : Int) + 1)) ∧ w' = w := by
  have c1 := h.c1
  have hl := len_str P
  have C := Lib.hid (isMade_any h)
  go_enter Tryz.func133, Tryz.ntmps133
  go_wp2_with (go_at_call 112; refine C.out.mono ?_; rintro e w' ⟨rfl, rfl⟩)
  go_ret
  exact ⟨rfl, rfl⟩

theorem sizes_nil (w : World) :
    Calls Tryz.prog 133 #[.pointer none] w fun e w' => e = .returned (.int .i64 0) ∧ w' = w := by
  have C := Lib.hid (isMade_nil w)
  go_enter Tryz.func133, Tryz.ntmps133
  go_wp2_with (go_at_call 112; refine C.out.mono ?_; rintro e w' ⟨rfl, rfl⟩)
  go_ret
  exact ⟨rfl, rfl⟩

/-- counted, from f alone: the automaton may be half made. -/
theorem counted_any {w : World} {b : Nat} {f : Bool} (c2 : w.cell? ⟨b, 2, none⟩ = some (.bool f)) (s : ByteArray) (hs : s.size ≤ 1000000) :
    Calls Tryz.prog 80 #[.pointer (some ⟨b, 0, none⟩), .string s] w fun e w' => e = .returned (.string (str (cntL f s.data.toList))) ∧ Below w.heap.size w w' := by
  cases f with
  | true =>
    have C := Lib.hid (fold_any s w hs)
    show Calls _ _ _ _ fun e w' => e = .returned (.string (str (foldL s.data.toList))) ∧ _
    go_enter Tryz.func80, Tryz.ntmps80
    go_wp2_with (go_at_call 70; refine C.out.mono ?_; rintro e w' ⟨rfl, b⟩)
    go_ret
    exact ⟨rfl, b⟩
  | false =>
    have hst : str (cntL false s.data.toList) = s := str_of s
    rw [hst]
    go_enter Tryz.func80, Tryz.ntmps80
    go_wp2
    go_ret
    exact ⟨rfl, Below.refl _ _⟩

theorem pattern_any {w : World} {b : Nat} {P : List UInt8} {f : Bool} (h : NfaAt w b P f) (hP : P.length ≤ 1000000) :
    Calls Tryz.prog 107 #[.pointer (some ⟨b, 0, none⟩)] w fun e w' => e = .returned (.tuple #[.string (str P), .bool f]) ∧ Below w.heap.size w w' := by
  have c1 := h.c1
  have c2 := h.c2
  have C := Lib.hid (isMade_any h)
  have hbl := h.lt
  have C2 := Lib.hid (fun w => clone_any (str P) w (by rw [str_size]; exact hP))
  go_enter Tryz.func107, Tryz.ntmps107
  go_wp2_with (go_at_call 112; refine C.out.mono ?_; rintro e w' ⟨rfl, rfl⟩)
  go_region_with (go_at_call 75; refine (C2.out _).mono ?_; rintro e w2 ⟨rfl, hb⟩; have c22 : w2.cell? ⟨b, 2, none⟩ = some (.bool f) := (hb.cell (p := ⟨b, 2, none⟩) hbl).trans (by first | exact c2 | simpa using c2))
  all_goals
    go_wp2
    go_ret2
    first
      | exact ⟨rfl, (Below.refl _ _).drew.trans hb⟩
      | exact ⟨rfl, (Below.refl _ _).drew.trans hb.drew⟩
      | exact ⟨rfl, hb.drew⟩
      | exact ⟨rfl, hb⟩

theorem pattern_nil (w : World) :
    Calls Tryz.prog 107 #[.pointer none] w fun e w' => e = .returned (.tuple #[.string ⟨#[]⟩, .bool false]) ∧ w' = w := by
  have C := Lib.hid (isMade_nil w)
  go_enter Tryz.func107, Tryz.ntmps107
  go_wp2_with (go_at_call 112; refine C.out.mono ?_; rintro e w' ⟨rfl, rfl⟩)
  go_ret2
  exact ⟨rfl, rfl⟩
end Go.Proofs.YtnpgmekgmelamaaGreat
