/-
  What is proved: plain facts on sets of states (functions from numbers to bools): the closure, a step, what they come to for a glob and a string (the sets say what the glob's beginnings match), and their lists.
-/
import Derived.Test.YtchobpfdmkgnoaaGlMath
namespace Go.Proofs.Ytchobpfdmkgnoaa

/-- Is there a * at position i? -/
def isStar (B : List UInt8) (i : Nat) : Bool := B[i]? == some 42
/-- The closure. -/
def clo (B : List UInt8) (g : Nat → Bool) : Nat → Bool
  | 0 => g 0
  | i + 1 => g (i + 1) || (clo B g i && isStar B i)
/-- The arrow to the next position. -/
def goes (B : List UInt8) (c : UInt8) (i : Nat) : Bool := decide (i < B.length) && (!isStar B i && (B[i]? == some 63 || B[i]? == some c))
/-- A step, without the closure. -/
def mv (B : List UInt8) (c : UInt8) (g : Nat → Bool) : Nat → Bool
  | 0 => g 0 && isStar B 0
  | j + 1 => (g (j + 1) && isStar B (j + 1)) || (g j && goes B c j)
def stepF (B : List UInt8) (c : UInt8) (g : Nat → Bool) : Nat → Bool := clo B (mv B c g)
def startF (B : List UInt8) : Nat → Bool := clo B (fun i => decide (i = 0))
def runF (B : List UInt8) (t : List UInt8) (g : Nat → Bool) : Nat → Bool := t.foldl (fun g c => stepF B c g) g

theorem runF_snoc (B t : List UInt8) (c : UInt8) (g : Nat → Bool) : runF B (t ++ [c]) g = stepF B c (runF B t g) := by simp [runF]
theorem runF_cons (B t : List UInt8) (c : UInt8) (g : Nat → Bool) : runF B (c :: t) g = runF B t (stepF B c g) := by simp [runF]

theorem clo_congr {B : List UInt8} {g h : Nat → Bool} {n : Nat} (e : ∀ i, i < n → g i = h i) : ∀ i, i < n → clo B g i = clo B h i := by
  intro i
  induction i with
  | zero => intro hi; exact e 0 hi
  | succ i ih => intro hi; simp only [clo]; rw [e _ hi, ih (by omega)]
theorem mv_congr {B : List UInt8} {c : UInt8} {g h : Nat → Bool} {n : Nat} (e : ∀ i, i < n → g i = h i) : ∀ i, i < n → mv B c g i = mv B c h i := by
  intro i hi
  cases i with
  | zero => simp only [mv]; rw [e 0 hi]
  | succ i => simp only [mv]; rw [e _ hi, e i (by omega)]
theorem stepF_congr {B : List UInt8} {c : UInt8} {g h : Nat → Bool} {n : Nat} (e : ∀ i, i < n → g i = h i) : ∀ i, i < n → stepF B c g i = stepF B c h i := clo_congr (mv_congr e)

theorem clo_or (B : List UInt8) (g h : Nat → Bool) : ∀ i, clo B (fun j => g j || h j) i = (clo B g i || clo B h i) := by
  intro i
  induction i with
  | zero => rfl
  | succ i ih => simp only [clo]; rw [ih]; cases g (i + 1) <;> cases h (i + 1) <;> cases clo B g i <;> cases clo B h i <;> cases isStar B i <;> rfl
theorem mv_or (B : List UInt8) (c : UInt8) (g h : Nat → Bool) : ∀ i, mv B c (fun j => g j || h j) i = (mv B c g i || mv B c h i) := by
  intro i
  cases i with
  | zero => simp only [mv]; cases g 0 <;> cases h 0 <;> cases isStar B 0 <;> rfl
  | succ i => simp only [mv]; cases g (i + 1) <;> cases h (i + 1) <;> cases g i <;> cases h i <;> cases isStar B (i + 1) <;> cases goes B c i <;> rfl
theorem stepF_or (B : List UInt8) (c : UInt8) (g h : Nat → Bool) (i : Nat) : stepF B c (fun j => g j || h j) i = (stepF B c g i || stepF B c h i) := by
  unfold stepF
  rw [clo_congr (n := i + 1) (fun j _ => mv_or B c g h j) i (by omega), clo_or]

/-! What the sets say -/
theorem rowS (p t : List UInt8) (d : UInt8) : mt false (p ++ [42]) (t ++ [d]) = (mt false p (t ++ [d]) || mt false (p ++ [42]) t) := by
  have := row_star p (t ++ [d]) t.length (by simp)
  rwa [List.take_of_length_le (by simp), List.take_left' rfl] at this
theorem rowO (p t : List UInt8) (c d : UInt8) (hc : c ≠ 42) : mt false (p ++ [c]) (t ++ [d]) = (mt false p t && (c == 63 || c == d)) := by
  have := row_one p c hc (t ++ [d]) t.length (by simp)
  rw [List.take_of_length_le (by simp), List.take_left' rfl] at this
  simpa using this

/-- Are the first i positions gone through by t? -/
def mi (B : List UInt8) (t : List UInt8) (i : Nat) : Bool := mt false (B.take i) t
def saysF (B t : List UInt8) (i : Nat) : Bool := if isStar B i then mi B t (i + 1) else mi B t i

theorem take_at {B : List UInt8} {i : Nat} {c : UInt8} (h : B[i]? = some c) : B.take (i + 1) = B.take i ++ [c] := by
  rw [List.take_add_one, h]; rfl
theorem star_at {B : List UInt8} {i : Nat} (h : isStar B i = true) : B[i]? = some 42 := by simpa [isStar] using h

theorem says_start (B : List UInt8) : ∀ i, i ≤ B.length → saysF B [] i = startF B i := by
  have h0 : mi B [] 0 = true := by simp [mi, mt]
  have h1 : ∀ i, i < B.length → mi B [] (i + 1) = (isStar B i && mi B [] i) := by
    intro i hi
    obtain ⟨c, hc⟩ : ∃ c, B[i]? = some c := ⟨_, List.getElem?_eq_getElem hi⟩
    unfold mi
    rw [take_at hc]
    by_cases e : c = 42
    · subst e; rw [row_star0]; simp [isStar, hc]
    · rw [row_one0 _ _ e]; simp [isStar, hc, e]
  have hs : ∀ i, i ≤ B.length → saysF B [] i = mi B [] i := by
    intro i hi
    unfold saysF
    cases e : isStar B i with
    | false => rfl
    | true =>
      have hl : i < B.length := by
        have := star_at e
        exact (List.getElem?_eq_some_iff.1 this).1
      rw [if_pos rfl, h1 i hl, e]; rfl
  intro i
  induction i with
  | zero => intro _; rw [hs 0 (by omega), h0]; rfl
  | succ i ih =>
    intro hi
    have ih' := ih (by omega)
    rw [hs _ hi, h1 i (by omega), ← hs i (by omega), ih']
    simp [startF, clo]
    rw [Bool.and_comm]

theorem says_step (B t : List UInt8) (d : UInt8) : ∀ i, i ≤ B.length → saysF B (t ++ [d]) i = stepF B d (saysF B t) i := by
  have h0 : mi B (t ++ [d]) 0 = false := by
    unfold mi; rw [List.take_zero]; cases t <;> rfl
  intro i
  induction i with
  | zero =>
    intro _
    show _ = (saysF B t 0 && isStar B 0)
    cases e : isStar B 0 with
    | false => simp only [saysF, e]; simpa using h0
    | true =>
      simp only [saysF, e, if_true, Bool.and_true]
      unfold mi
      rw [take_at (star_at e), rowS]
      have : mt false (B.take 0) (t ++ [d]) = false := h0
      rw [this]; rfl
  | succ i ih =>
    intro hi
    have hl : i < B.length := by omega
    have ih' := ih (by omega)
    have hm : mi B (t ++ [d]) (i + 1) = ((saysF B t i && goes B d i) || (stepF B d (saysF B t) i && isStar B i)) := by
      cases e : isStar B i with
      | true =>
        have hg : goes B d i = false := by unfold goes; rw [e]; simp
        rw [hg, ← ih', Bool.and_false, Bool.false_or, Bool.and_true]
        simp only [saysF, e, if_true]
      | false =>
        obtain ⟨c, hc⟩ : ∃ c, B[i]? = some c := ⟨_, List.getElem?_eq_getElem hl⟩
        have hc42 : c ≠ 42 := by
          intro e2; subst e2
          rw [isStar, hc] at e; exact absurd e (by decide)
        have hg : goes B d i = (c == 63 || c == d) := by
          unfold goes; rw [e, hc, decide_eq_true hl]
          simp
        rw [Bool.and_false, Bool.or_false, hg]
        simp only [saysF, e]
        unfold mi
        rw [take_at hc, rowO _ _ _ _ hc42]; rfl
    show _ = (mv B d (saysF B t) (i + 1) || (stepF B d (saysF B t) i && isStar B i))
    simp only [mv]
    cases e : isStar B (i + 1) with
    | false =>
      rw [show saysF B (t ++ [d]) (i + 1) = mi B (t ++ [d]) (i + 1) by simp only [saysF, e]; rfl, hm]
      cases saysF B t (i + 1) <;> simp
    | true =>
      have hS : saysF B t (i + 1) = mi B t (i + 2) := by simp only [saysF, e, if_true]
      rw [show saysF B (t ++ [d]) (i + 1) = mi B (t ++ [d]) (i + 2) by simp only [saysF, e, if_true]]
      have hr : mi B (t ++ [d]) (i + 2) = (mi B (t ++ [d]) (i + 1) || mi B t (i + 2)) := by
        unfold mi; rw [take_at (star_at e), rowS]
      rw [hr, hm, hS]
      cases mi B t (i + 2) <;> cases saysF B t i <;> cases goes B d i <;> cases stepF B d (saysF B t) i <;> cases isStar B i <;> rfl

theorem run_says (B : List UInt8) : ∀ (t : List UInt8) (i : Nat), i ≤ B.length → runF B t (startF B) i = saysF B t i := by
  have key : ∀ (n : Nat) (t : List UInt8), t.length = n → ∀ i, i ≤ B.length → runF B t (startF B) i = saysF B t i := by
    intro n
    induction n with
    | zero =>
      intro t ht i hi
      have : t = [] := by simpa using ht
      subst this
      exact (says_start B i hi).symm
    | succ n ih =>
      intro t ht i hi
      obtain ⟨u, d, rfl⟩ : ∃ u d, t = u ++ [d] := ⟨t.dropLast, t.getLast (by intro e; simp [e] at ht), (List.dropLast_concat_getLast _).symm⟩
      have hu : u.length = n := by simpa using ht
      rw [runF_snoc, says_step B u d i hi]
      exact stepF_congr (n := B.length + 1) (fun j hj => ih u hu j (by omega)) i (by omega)
  exact fun t i hi => key t.length t rfl i hi

/-- At the end: what the glob matches. -/
theorem run_end (B t : List UInt8) : runF B t (startF B) B.length = mt false B t := by
  rw [run_says B t _ (Nat.le_refl _)]
  have : isStar B B.length = false := by simp [isStar]
  simp only [saysF, this]
  unfold mi
  rw [List.take_length]; rfl

/-! Bytes as they count -/
def cntL (f : Bool) (l : List UInt8) : List UInt8 := if f then foldL l else l
def cntC (f : Bool) (c : UInt8) : UInt8 := if f then foldC c else c
theorem cntL_len (f : Bool) (l : List UInt8) : (cntL f l).length = l.length := by cases f <;> simp [cntL, foldL]
theorem cntL_at (f : Bool) (l : List UInt8) (i : Nat) : (cntL f l)[i]? = l[i]?.map (cntC f) := by
  cases f with
  | false =>
    show l[i]? = Option.map (fun c => c) l[i]?
    cases l[i]? <;> rfl
  | true =>
    show (l.map foldC)[i]? = Option.map foldC l[i]?
    rw [List.getElem?_map]
theorem cnt_mt (f : Bool) (p t : List UInt8) : mt f p t = mt false (cntL f p) (cntL f t) := by
  cases f with
  | false => rfl
  | true => exact mt_fold p t
theorem cnt_snoc (f : Bool) (t : List UInt8) (c : UInt8) : cntL f (t ++ [c]) = cntL f t ++ [cntC f c] := by cases f <;> simp [cntL, cntC, foldL]
theorem cnt_one (f : Bool) (c : UInt8) : cntL f [c] = [cntC f c] := by cases f <;> simp [cntL, cntC, foldL]

/-! A rising list of states -/
def listF (n : Nat) (g : Nat → Bool) : List Nat := (List.range n).filter g
def intsF (n : Nat) (g : Nat → Bool) : List Int := (listF n g).map Int.ofNat
theorem listF_congr {n : Nat} {g h : Nat → Bool} (e : ∀ i, i < n → g i = h i) : listF n g = listF n h := by
  unfold listF
  apply List.filter_congr
  intro i hi
  exact e i (by simpa using hi)
theorem intsF_congr {n : Nat} {g h : Nat → Bool} (e : ∀ i, i < n → g i = h i) : intsF n g = intsF n h := by
  unfold intsF; rw [listF_congr e]
theorem listF_succ (n : Nat) (g : Nat → Bool) : listF (n + 1) g = listF n g ++ if g n then [n] else [] := by
  unfold listF
  rw [List.range_succ, List.filter_append]
  congr 1
  cases h : g n <;> simp [h]
theorem listF_len (n : Nat) (g : Nat → Bool) : (listF n g).length ≤ n := by
  unfold listF
  have := List.length_filter_le g (List.range n)
  simpa using this
theorem intsF_len (n : Nat) (g : Nat → Bool) : (intsF n g).length ≤ n := by unfold intsF; rw [List.length_map]; exact listF_len n g
theorem mem_listF {n : Nat} {g : Nat → Bool} {i : Nat} : i ∈ listF n g ↔ i < n ∧ g i = true := by simp [listF]
theorem mem_intsF {n : Nat} {g : Nat → Bool} {x : Int} : x ∈ intsF n g ↔ ∃ i : Nat, x = i ∧ i < n ∧ g i = true := by
  unfold intsF
  rw [List.mem_map]
  constructor
  · rintro ⟨i, h, e⟩; exact ⟨i, e.symm, mem_listF.1 h⟩
  · rintro ⟨i, e, h⟩; exact ⟨i, mem_listF.2 h, e.symm⟩
/-- Is state i in the list l? -/
def inL (l : List Int) (i : Nat) : Bool := l.contains (i : Int)
theorem inL_ints {n : Nat} {g : Nat → Bool} {i : Nat} (hi : i < n) : inL (intsF n g) i = g i := by
  apply bool_iff
  unfold inL
  rw [List.contains_iff_mem, mem_intsF]
  constructor
  · rintro ⟨j, e, _, h⟩; have : j = i := by omega
    rwa [this] at h
  · intro h; exact ⟨i, rfl, hi, h⟩
theorem inL_app (l m : List Int) (i : Nat) : inL (l ++ m) i = (inL l i || inL m i) := by simp [inL]
end Go.Proofs.Ytchobpfdmkgnoaa
