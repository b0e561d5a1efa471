/-
  What is proved: plain facts on globs as lists of bytes: what a glob matches, that going back to the last star alone finds it, normal forms, literals, concatenations. No conditions. Nothing here speaks of the program.
-/
import Derived.Lib.Bytealg
import Derived.Lib.Strings
import Derived.Lib.IndexMore
namespace Go.Proofs.YtnpgmekgmelamaaGreat
open Go

def capC (c : UInt8) : Bool := decide (65 ≤ c.toNat) && decide (c.toNat ≤ 90)
def foldC (c : UInt8) : UInt8 := if capC c then c + 32 else c
def foldL (l : List UInt8) : List UInt8 := l.map foldC
def eqC (f : Bool) (a b : UInt8) : Bool := if f then foldC a == foldC b else a == b
def oneC (f : Bool) (c d : UInt8) : Bool := c == 63 || eqC f c d
/-- Of some end. -/
def star (m : List UInt8 → Bool) : List UInt8 → Bool
  | [] => m []
  | d :: t => m (d :: t) || star m t
/-- What a glob matches. -/
def mt (f : Bool) : List UInt8 → List UInt8 → Bool
  | [], t => t.isEmpty
  | c :: p, t => if c = 42 then star (mt f p) t else match t with
    | [] => false
    | d :: t' => oneC f c d && mt f p t'
def least (p : List UInt8) : Nat := p.countP (fun c => c != 42)
def normL : Bool → List UInt8 → List UInt8
  | b, [] => if b then [42] else []
  | b, c :: p => if c = 42 then normL true p else if b && c != 63 then 42 :: c :: normL false p else c :: normL b p
def litL (p : List UInt8) : Bool := !p.contains 42 && !p.contains 63

/-- Whatever holds of each of the 256 bytes. -/
theorem all_bytes {p : UInt8 → Bool} (h : (List.range 256).all (fun n => p (UInt8.ofNat n)) = true) (c : UInt8) : p c = true := by
  have := List.all_eq_true.1 h c.toNat (List.mem_range.2 c.toNat_lt)
  simpa using this

theorem star_iff (m : List UInt8 → Bool) (t : List UInt8) : star m t = true ↔ ∃ a b, t = a ++ b ∧ m b = true := by
  induction t with
  | nil =>
    simp only [star]
    constructor
    · intro h; exact ⟨[], [], rfl, h⟩
    · rintro ⟨a, b, h, hm⟩
      have := List.append_eq_nil_iff.1 h.symm
      rw [this.2] at hm; exact hm
  | cons d t ih =>
    simp only [star, Bool.or_eq_true, ih]
    constructor
    · rintro (h | ⟨a, b, rfl, h⟩)
      · exact ⟨[], d :: t, rfl, h⟩
      · exact ⟨d :: a, b, rfl, h⟩
    · rintro ⟨a, b, h, hm⟩
      cases a with
      | nil => simp at h; subst h; exact .inl hm
      | cons x a => simp at h; obtain ⟨rfl, rfl⟩ := h; exact .inr ⟨a, b, rfl, hm⟩

theorem mt_star (f : Bool) (p t : List UInt8) : mt f (42 :: p) t = star (mt f p) t := by simp [mt]
theorem mt_one (f : Bool) (c d : UInt8) (p t : List UInt8) (h : c ≠ 42) : mt f (c :: p) (d :: t) = (oneC f c d && mt f p t) := by simp [mt, h]
theorem mt_none (f : Bool) (c : UInt8) (p : List UInt8) (h : c ≠ 42) : mt f (c :: p) [] = false := by simp [mt, h]

theorem mt_end (f : Bool) (p : List UInt8) : mt f p [] = decide (least p = 0) := by
  induction p with
  | nil => rfl
  | cons c p ih =>
    by_cases e : c = 42
    · subst e; rw [mt_star]; simp only [star]; rw [ih]; simp [least]
    · rw [mt_none f c p e]; simp [least, e]

theorem mt_app (f : Bool) (p q : List UInt8) : ∀ t, mt f (p ++ q) t = true ↔ ∃ a b, t = a ++ b ∧ mt f p a = true ∧ mt f q b = true := by
  induction p with
  | nil =>
    intro t
    constructor
    · intro h; exact ⟨[], t, rfl, rfl, h⟩
    · rintro ⟨a, b, rfl, ha, hb⟩
      have : a = [] := by simpa [mt] using ha
      subst this; exact hb
  | cons c p ih =>
    intro t
    by_cases e : c = 42
    · subst e
      rw [List.cons_append, mt_star, star_iff]
      constructor
      · rintro ⟨x, y, rfl, h⟩
        obtain ⟨a, b, rfl, ha, hb⟩ := (ih y).1 h
        exact ⟨x ++ a, b, by simp, by rw [mt_star, star_iff]; exact ⟨x, a, rfl, ha⟩, hb⟩
      · rintro ⟨a, b, rfl, ha, hb⟩
        rw [mt_star, star_iff] at ha
        obtain ⟨x, y, rfl, h⟩ := ha
        exact ⟨x, y ++ b, by simp, (ih _).2 ⟨y, b, rfl, h, hb⟩⟩
    · rw [List.cons_append]
      cases t with
      | nil =>
        rw [mt_none f c _ e]
        constructor
        · intro h; cases h
        · rintro ⟨a, b, h, ha, hb⟩
          have := List.append_eq_nil_iff.1 h.symm
          rw [this.1, mt_none f c _ e] at ha; cases ha
      | cons d t =>
        rw [mt_one f c d _ _ e, Bool.and_eq_true, ih]
        constructor
        · rintro ⟨h, a, b, rfl, ha, hb⟩
          exact ⟨d :: a, b, rfl, by rw [mt_one f c d _ _ e, h, ha]; rfl, hb⟩
        · rintro ⟨a, b, h, ha, hb⟩
          cases a with
          | nil => rw [mt_none f c _ e] at ha; cases ha
          | cons x a =>
            simp at h
            obtain ⟨rfl, rfl⟩ := h
            rw [mt_one f c d _ _ e, Bool.and_eq_true] at ha
            exact ⟨ha.1, a, b, rfl, ha.2, hb⟩

theorem mt_any (f : Bool) (t : List UInt8) : mt f [42] t = true := by
  rw [mt_star, star_iff]; exact ⟨t, [], by simp, rfl⟩

/-! ## Going back to the last star -/
/-- Byte by byte: a piece without a star. -/
def sg (f : Bool) : List UInt8 → List UInt8 → Bool
  | [], _ => true
  | _ :: _, [] => false
  | c :: p, d :: t => oneC f c d && sg f p t

theorem mt_seg (f : Bool) (r : List UInt8) : ∀ (s t : List UInt8), (∀ c ∈ s, c ≠ 42) → mt f (s ++ r) t = (sg f s t && mt f r (t.drop s.length)) := by
  intro s
  induction s with
  | nil => intro t _; simp [sg]
  | cons c s ih =>
    intro t h
    have e : c ≠ 42 := h c (by simp)
    cases t with
    | nil => rw [List.cons_append, mt_none f c _ e]; simp [sg]
    | cons d t =>
      rw [List.cons_append, mt_one f c d _ _ e, ih t (fun x hx => h x (by simp [hx]))]
      simp [sg, Bool.and_assoc]

theorem sg_len (f : Bool) : ∀ (s t : List UInt8), sg f s t = true → s.length ≤ t.length := by
  intro s
  induction s with
  | nil => intro t _; simp
  | cons c s ih =>
    intro t h
    cases t with
    | nil => cases h
    | cons d t =>
      simp only [sg, Bool.and_eq_true] at h
      have := ih t h.2
      simp; exact this

theorem sg_snoc (f : Bool) (c : UInt8) : ∀ (s t : List UInt8) (d : UInt8) (u : List UInt8), sg f s t = true → t.drop s.length = d :: u → oneC f c d = true → sg f (s ++ [c]) t = true := by
  intro s
  induction s with
  | nil =>
    intro t d u _ h1 h2
    simp at h1
    subst h1
    simp [sg, h2]
  | cons x s ih =>
    intro t d u h h1 h2
    cases t with
    | nil => cases h
    | cons y t =>
      simp only [sg, Bool.and_eq_true] at h
      simp only [List.cons_append, sg, Bool.and_eq_true]
      exact ⟨h.1, ih t d u h.2 (by simpa using h1) h2⟩

/-- A star absorbs what lies ahead. -/
theorem star_mono (f : Bool) (p a b : List UInt8) (h : mt f (42 :: p) b = true) : mt f (42 :: p) (a ++ b) = true := by
  rw [mt_star, star_iff] at h ⊢
  obtain ⟨x, y, rfl, h⟩ := h
  exact ⟨a ++ x, y, by simp, h⟩

theorem bool_iff {a b : Bool} (h : a = true ↔ b = true) : a = b := by
  cases a <;> cases b <;> simp_all

/-- A new star: the old one is of no more use. -/
theorem new_star (f : Bool) (s r te : List UInt8) (hs : ∀ c ∈ s, c ≠ 42) (hg : sg f s te = true) :
    mt f (42 :: (s ++ 42 :: r)) te = mt f (42 :: r) (te.drop s.length) := by
  refine bool_iff ⟨fun h => ?_, fun h => ?_⟩
  · rw [mt_star, star_iff] at h
    obtain ⟨a, b, rfl, h⟩ := h
    rw [mt_seg f _ s b hs, Bool.and_eq_true] at h
    have hl := sg_len f s b h.1
    have e : (a ++ b).drop s.length = ((a ++ b).drop s.length).take a.length ++ b.drop s.length := by
      have : b.drop s.length = ((a ++ b).drop s.length).drop a.length := by
        rw [List.drop_drop, Nat.add_comm, ← List.drop_drop, List.drop_left]
      rw [this, List.take_append_drop]
    rw [e]
    exact star_mono f r _ _ h.2
  · rw [mt_star, star_iff]
    exact ⟨[], te, rfl, by rw [mt_seg f _ s te hs, hg]; exact h⟩

/-- The text is used up: no earlier star helps. -/
theorem end_star (f : Bool) (s r te : List UInt8) (hs : ∀ c ∈ s, c ≠ 42) (hg : sg f s te = true) (he : te.drop s.length = []) :
    mt f (42 :: (s ++ r)) te = mt f r [] := by
  have hlen : te.length ≤ s.length := by
    have := congrArg List.length he
    simp at this; omega
  refine bool_iff ⟨fun h => ?_, fun h => ?_⟩
  · rw [mt_star, star_iff] at h
    obtain ⟨a, b, rfl, h⟩ := h
    rw [mt_seg f _ s b hs, Bool.and_eq_true] at h
    have hl := sg_len f s b h.1
    have : b.drop s.length = [] := by
      apply List.drop_eq_nil_of_le
      simp at hlen; omega
    rw [this] at h
    exact h.2
  · rw [mt_star, star_iff]
    exact ⟨[], te, rfl, by rw [mt_seg f _ s te hs, hg, he]; exact h⟩

/-- Where the search stands: at i of the glob, at j of the text, with the last star and where its bytes end. -/
def Inv (f : Bool) (P T : List UInt8) (i j : Nat) : Option (Nat × Nat) → Prop
  | none => mt f P T = mt f (P.drop i) (T.drop j)
  | some (st, en) => en ≤ j ∧ j ≤ T.length ∧ st < i ∧ i ≤ P.length ∧ ∃ s, (∀ c ∈ s, c ≠ 42) ∧ P.drop (st + 1) = s ++ P.drop i ∧ en + s.length = j ∧ sg f s (T.drop en) = true ∧ mt f P T = mt f (42 :: (s ++ P.drop i)) (T.drop en)

theorem inv0 (f : Bool) (P T : List UInt8) : Inv f P T 0 0 none := rfl

theorem inv_star {f : Bool} {P T : List UInt8} {i j : Nat} {o : Option (Nat × Nat)} (h : Inv f P T i j o) (hj : j ≤ T.length) (hi : i < P.length) (hp : P.drop i = 42 :: P.drop (i + 1)) : Inv f P T (i + 1) j (some (i, j)) := by
  refine ⟨Nat.le_refl _, hj, by omega, by omega, [], by simp, rfl, by simp, rfl, ?_⟩
  rw [List.nil_append, ← hp]
  cases o with
  | none => exact h
  | some x =>
    obtain ⟨st, en⟩ := x
    obtain ⟨h1, h2, h3, h4, s, hs, e1, e2, hg, hm⟩ := h
    rw [hm, hp, new_star f s _ _ hs hg, List.drop_drop, e2]

theorem inv_step {f : Bool} {P T : List UInt8} {i j : Nat} {o : Option (Nat × Nat)} {c d : UInt8} (h : Inv f P T i j o) (hp : P.drop i = c :: P.drop (i + 1)) (hi : i < P.length) (ht : T.drop j = d :: T.drop (j + 1)) (hj : j < T.length) (hc : c ≠ 42) (ho : oneC f c d = true) : Inv f P T (i + 1) (j + 1) o := by
  cases o with
  | none =>
    unfold Inv at h ⊢
    rw [h, hp, ht, mt_one f c d _ _ hc, ho, Bool.true_and]
  | some x =>
    obtain ⟨st, en⟩ := x
    obtain ⟨h1, h2, h3, h4, s, hs, e1, e2, hg, hm⟩ := h
    refine ⟨by omega, by omega, by omega, by omega, s ++ [c], ?_, ?_, by simp; omega, ?_, ?_⟩
    · intro x hx
      simp at hx
      rcases hx with hx | rfl
      · exact hs x hx
      · exact hc
    · rw [e1, hp]; simp
    · exact sg_snoc f c s _ d (T.drop (j + 1)) hg (by rw [List.drop_drop, e2, ht]) ho
    · rw [hm, hp]; simp

theorem inv_back {f : Bool} {P T : List UInt8} {i j st en : Nat} (h : Inv f P T i j (some (st, en))) (hj : j < T.length) (hd : mt f (P.drop i) (T.drop j) = false) : Inv f P T (st + 1) (en + 1) (some (st, en + 1)) := by
  obtain ⟨h1, h2, h3, h4, s, hs, e1, e2, hg, hm⟩ := h
  refine ⟨Nat.le_refl _, by omega, by omega, by omega, [], by simp, rfl, by simp, rfl, ?_⟩
  have ht : T.drop en = T[en] :: T.drop (en + 1) := List.drop_eq_getElem_cons (by omega)
  have hf : mt f (s ++ P.drop i) (T.drop en) = false := by
    rw [mt_seg f _ s _ hs, hg, List.drop_drop, e2, hd]; rfl
  rw [hm, List.nil_append, e1, mt_star, mt_star]
  rw [ht] at hf ⊢
  simp only [star, hf, Bool.false_or]

theorem inv_end {f : Bool} {P T : List UInt8} {i j : Nat} {o : Option (Nat × Nat)} (h : Inv f P T i j o) (hj : T.length ≤ j) : mt f P T = decide (least (P.drop i) = 0) := by
  have ht : T.drop j = [] := List.drop_eq_nil_of_le hj
  rw [← mt_end f]
  cases o with
  | none => rw [← ht]; exact h
  | some x =>
    obtain ⟨st, en⟩ := x
    obtain ⟨h1, h2, h3, h4, s, hs, e1, e2, hg, hm⟩ := h
    rw [hm, end_star f s _ _ hs hg (by rw [List.drop_drop, e2, ht])]

theorem dead_one {f : Bool} {p t : List UInt8} {c d : UInt8} (hc : c ≠ 42) (ho : oneC f c d = false) : mt f (c :: p) (d :: t) = false := by rw [mt_one f c d _ _ hc, ho]; rfl
theorem dead_nil {f : Bool} {t : List UInt8} {d : UInt8} : mt f [] (d :: t) = false := rfl

/-! ## Normal forms -/
theorem star_twice (f : Bool) (p t : List UInt8) : mt f (42 :: 42 :: p) t = mt f (42 :: p) t := by
  have := new_star f [] p t (by simp) rfl
  simpa using this

theorem star_swap (f : Bool) (p t : List UInt8) : mt f (63 :: 42 :: p) t = mt f (42 :: 63 :: p) t := by
  have h63 : (63 : UInt8) ≠ 42 := by decide
  have ho : ∀ d, oneC f 63 d = true := fun d => by simp [oneC]
  refine bool_iff ⟨fun h => ?_, fun h => ?_⟩
  · cases t with
    | nil => rw [mt_none f _ _ h63] at h; cases h
    | cons d t =>
      rw [mt_one f _ _ _ _ h63, ho, Bool.true_and, mt_star, star_iff] at h
      obtain ⟨a, b, rfl, h⟩ := h
      rw [mt_star, star_iff]
      -- the last byte ahead of b is the one
      have : ∃ a' x, d :: a = a' ++ [x] := by
        refine ⟨(d :: a).dropLast, (d :: a).getLast (by simp), ?_⟩
        rw [List.dropLast_concat_getLast]
      obtain ⟨a', x, e⟩ := this
      refine ⟨a', x :: b, ?_, by rw [mt_one f _ _ _ _ h63, ho]; exact h⟩
      rw [← List.cons_append, e]; simp
  · rw [mt_star, star_iff] at h
    obtain ⟨a, b, rfl, h⟩ := h
    cases b with
    | nil => rw [mt_none f _ _ h63] at h; cases h
    | cons y b =>
      rw [mt_one f _ _ _ _ h63, ho, Bool.true_and] at h
      cases a with
      | nil =>
        rw [List.nil_append, mt_one f _ _ _ _ h63, ho, Bool.true_and, mt_star, star_iff]
        exact ⟨[], b, rfl, h⟩
      | cons x a =>
        rw [List.cons_append, mt_one f _ _ _ _ h63, ho, Bool.true_and, mt_star, star_iff]
        exact ⟨a ++ [y], b, by simp, h⟩

theorem mt_cong (f : Bool) (c : UInt8) {p q : List UInt8} (h : ∀ t, mt f p t = mt f q t) (t : List UInt8) : mt f (c :: p) t = mt f (c :: q) t := by
  have e : mt f p = mt f q := funext h
  by_cases hc : c = 42
  · subst hc; rw [mt_star, mt_star, e]
  · cases t with
    | nil => rw [mt_none f c _ hc, mt_none f c _ hc]
    | cons d t => rw [mt_one f c d _ _ hc, mt_one f c d _ _ hc, h]

theorem norm_mt (f : Bool) : ∀ (p : List UInt8) (b : Bool) (t : List UInt8), mt f (normL b p) t = mt f (if b then 42 :: p else p) t := by
  intro p
  induction p with
  | nil => intro b t; cases b <;> rfl
  | cons c p ih =>
    intro b t
    unfold normL
    by_cases e : c = 42
    · subst e
      rw [if_pos rfl, ih]
      cases b with
      | false => rfl
      | true => simp only [if_true]; rw [star_twice]
    · rw [if_neg e]
      cases b with
      | false =>
        simp only [Bool.false_and, Bool.false_eq_true, if_false]
        exact mt_cong f c (fun t => by rw [ih]; rfl) t
      | true =>
        by_cases e2 : c = 63
        · subst e2
          simp only [bne_self_eq_false, Bool.and_false, Bool.false_eq_true, if_false, if_true]
          rw [← star_swap]
          exact mt_cong f 63 (fun t => by rw [ih]; rfl) t
        · have : (c != 63) = true := by simpa using e2
          simp only [this, Bool.and_true, if_true]
          exact mt_cong f 42 (fun t => mt_cong f c (fun t => by rw [ih]; rfl) t) t

theorem norm_twice : ∀ (p : List UInt8) (b : Bool), normL false (normL b p) = normL b p := by
  intro p
  induction p with
  | nil => intro b; cases b <;> rfl
  | cons c p ih =>
    intro b
    by_cases e : c = 42
    · subst e
      have : normL b (42 :: p) = normL true p := by simp [normL]
      rw [this, ih]
    · by_cases h2 : (b && c != 63) = true
      · have : normL b (c :: p) = 42 :: c :: normL false p := by simp only [normL, if_neg e, h2, if_true]
        rw [this]
        have h3 : (c != 63) = true := by simp at h2 ⊢; exact h2.2
        have : normL false (42 :: c :: normL false p) = normL true (c :: normL false p) := by simp [normL]
        rw [this]
        simp only [normL, if_neg e, h3, Bool.and_true, if_true]
        rw [ih]
      · have h2' : (b && c != 63) = false := by simpa using h2
        have : normL b (c :: p) = c :: normL b p := by simp only [normL, if_neg e, h2', Bool.false_eq_true, if_false]
        rw [this]
        simp only [normL, if_neg e, Bool.false_and, Bool.false_eq_true, if_false]
        rw [ih]

theorem norm_least : ∀ (p : List UInt8) (b : Bool), least (normL b p) = least p := by
  intro p
  induction p with
  | nil => intro b; cases b <;> rfl
  | cons c p ih =>
    intro b
    have hi := fun b => ih b
    unfold least at hi ⊢
    by_cases e : c = 42
    · subst e; simp [normL, hi]
    · by_cases h2 : (b && c != 63) = true
      · have : normL b (c :: p) = 42 :: c :: normL false p := by simp only [normL, if_neg e, h2, if_true]
        rw [this]; simp [hi, e]
      · have h2' : (b && c != 63) = false := by simpa using h2
        have : normL b (c :: p) = c :: normL b p := by simp only [normL, if_neg e, h2', Bool.false_eq_true, if_false]
        rw [this]; simp [hi, List.countP_cons]

theorem norm_len : ∀ (p : List UInt8) (b : Bool), (normL b p).length ≤ p.length + if b then 1 else 0 := by
  intro p
  induction p with
  | nil => intro b; cases b <;> simp [normL]
  | cons c p ih =>
    intro b
    by_cases e : c = 42
    · subst e
      have : normL b (42 :: p) = normL true p := by simp [normL]
      rw [this]
      have := ih true
      simp at this ⊢; omega
    · by_cases h2 : (b && c != 63) = true
      · have : normL b (c :: p) = 42 :: c :: normL false p := by simp only [normL, if_neg e, h2, if_true]
        rw [this]
        have hi := ih false
        have hb : b = true := by simp at h2; exact h2.1
        rw [hb]
        simp only [Bool.false_eq_true, if_false, if_true, List.length_cons] at hi ⊢; omega
      · have h2' : (b && c != 63) = false := by simpa using h2
        have : normL b (c :: p) = c :: normL b p := by simp only [normL, if_neg e, h2', Bool.false_eq_true, if_false]
        rw [this]
        have := ih b
        simp at this ⊢; omega

theorem mt_least (f : Bool) : ∀ (p t : List UInt8), mt f p t = true → least p ≤ t.length := by
  intro p
  induction p with
  | nil => intro t _; simp [least]
  | cons c p ih =>
    intro t h
    by_cases e : c = 42
    · subst e
      rw [mt_star, star_iff] at h
      obtain ⟨a, b, rfl, h⟩ := h
      have := ih b h
      simp [least] at this ⊢; omega
    · cases t with
      | nil => rw [mt_none f c _ e] at h; cases h
      | cons d t =>
        rw [mt_one f c d _ _ e, Bool.and_eq_true] at h
        have := ih t h.2
        simp [least, e] at this ⊢; exact this

/-! ## Literals -/
theorem lit_cons {c : UInt8} {p : List UInt8} (h : litL (c :: p) = true) : c ≠ 42 ∧ c ≠ 63 ∧ litL p = true := by
  simp only [litL, List.contains_cons, Bool.and_eq_true, Bool.not_eq_true', Bool.or_eq_false_iff] at h ⊢
  exact ⟨fun e => by simp [e] at h, fun e => by simp [e] at h, h.1.2, h.2.2⟩

theorem mt_lit (f : Bool) : ∀ (p t : List UInt8), litL p = true → mt f p t = (if f then foldL p == foldL t else p == t) := by
  intro p
  induction p with
  | nil =>
    intro t _
    cases t with
    | nil => cases f <;> rfl
    | cons d t => cases f <;> simp [mt, foldL]
  | cons c p ih =>
    intro t h
    obtain ⟨e1, e2, hl⟩ := lit_cons h
    cases t with
    | nil => rw [mt_none f c _ e1]; cases f <;> simp [foldL]
    | cons d t =>
      have e2' : (c == 63) = false := by simpa using e2
      rw [mt_one f c d _ _ e1, ih t hl, oneC, e2', Bool.false_or]
      cases f with
      | false => simp only [eqC, Bool.false_eq_true, if_false]; rfl
      | true => simp only [eqC, if_true]; rfl

theorem lit_same (f : Bool) (p t : List UInt8) (h : litL p = true) : mt f p t = (p == t || f && foldL p == foldL t) := by
  rw [mt_lit f p t h]
  cases f with
  | false => simp
  | true =>
    simp only [if_true, Bool.true_and]
    by_cases e : p = t
    · subst e; simp
    · have : (p == t) = false := by simpa using e
      rw [this, Bool.false_or]

/-! ## Splits -/
theorem mt_split (f : Bool) (p q t : List UInt8) : mt f (p ++ q) t = (List.range (t.length + 1)).any (fun k => mt f p (t.take k) && mt f q (t.drop k)) := by
  refine bool_iff ⟨fun h => ?_, fun h => ?_⟩
  · obtain ⟨a, b, rfl, ha, hb⟩ := (mt_app f p q t).1 h
    refine List.any_eq_true.2 ⟨a.length, by simp; omega, ?_⟩
    simp [ha, hb]
  · obtain ⟨k, _, hk⟩ := List.any_eq_true.1 h
    rw [Bool.and_eq_true] at hk
    exact (mt_app f p q t).2 ⟨_, _, (List.take_append_drop k t).symm, hk.1, hk.2⟩

/-! ## Folding, and the table of the document -/
theorem fold42 (c : UInt8) : (foldC c = 42) = (c = 42) := by
  have := all_bytes (p := fun c => decide (foldC c = 42) == decide (c = 42)) (by decide +kernel) c
  simpa using this
theorem fold63 (c : UInt8) : (foldC c == 63) = (c == 63) := by
  have := all_bytes (p := fun c => (foldC c == 63) == (c == 63)) (by decide +kernel) c
  simpa using this

theorem mt_fold : ∀ (p t : List UInt8), mt true p t = mt false (foldL p) (foldL t) := by
  intro p
  induction p with
  | nil => intro t; cases t <;> rfl
  | cons c p ih =>
    intro t
    by_cases e : c = 42
    · subst e
      have : foldL (42 :: p) = 42 :: foldL p := rfl
      rw [this, mt_star, mt_star]
      induction t with
      | nil => simp only [star]; exact ih []
      | cons d t iht =>
        have : foldL (d :: t) = foldC d :: foldL t := rfl
        rw [this]
        simp only [star]
        rw [ih, iht]; rfl
    · have e2 : foldC c ≠ 42 := by rw [ne_eq, fold42]; exact e
      have : foldL (c :: p) = foldC c :: foldL p := rfl
      rw [this]
      cases t with
      | nil => rw [mt_none _ _ _ e]; exact (mt_none _ _ _ e2).symm
      | cons d t =>
        have : foldL (d :: t) = foldC d :: foldL t := rfl
        rw [this, mt_one _ _ _ _ _ e, mt_one _ _ _ _ _ e2, ih]
        simp only [oneC, eqC, fold63, if_true, Bool.false_eq_true, if_false]

/-- One byte more of the glob: a star. -/
theorem row_star (p : List UInt8) (t : List UInt8) (k : Nat) (hk : k < t.length) : mt false (p ++ [42]) (t.take (k + 1)) = (mt false p (t.take (k + 1)) || mt false (p ++ [42]) (t.take k)) := by
  have ht : t.take (k + 1) = t.take k ++ [t[k]] := by rw [List.take_add_one, List.getElem?_eq_getElem hk]; rfl
  refine bool_iff ⟨fun h => ?_, fun h => ?_⟩
  · obtain ⟨a, b, e, ha, hb⟩ := (mt_app _ _ _ _).1 h
    rw [Bool.or_eq_true]
    rcases List.eq_nil_or_concat b with rfl | ⟨b', x, rfl⟩
    · left; rw [e, List.append_nil]; exact ha
    · right
      rw [ht, List.concat_eq_append, ← List.append_assoc] at e
      have := List.append_inj_left' e rfl
      rw [this]
      exact (mt_app _ _ _ _).2 ⟨a, b', rfl, ha, mt_any _ _⟩
  · rw [Bool.or_eq_true] at h
    rcases h with h | h
    · exact (mt_app _ _ _ _).2 ⟨_, [], by simp, h, mt_any _ _⟩
    · obtain ⟨a, b, e, ha, hb⟩ := (mt_app _ _ _ _).1 h
      exact (mt_app _ _ _ _).2 ⟨a, b ++ [t[k]], by rw [ht, e]; simp, ha, mt_any _ _⟩

theorem row_star0 (p : List UInt8) : mt false (p ++ [42]) [] = mt false p [] := by
  rw [mt_end, mt_end]; simp [least]

/-- One byte more of the glob: another. -/
theorem row_one (p : List UInt8) (c : UInt8) (hc : c ≠ 42) (t : List UInt8) (k : Nat) (hk : k < t.length) : mt false (p ++ [c]) (t.take (k + 1)) = (mt false p (t.take k) && (c == 63 || c == t[k])) := by
  have ht : t.take (k + 1) = t.take k ++ [t[k]] := by rw [List.take_add_one, List.getElem?_eq_getElem hk]; rfl
  have h1 : ∀ b, mt false [c] b = true ↔ ∃ d, b = [d] ∧ oneC false c d = true := by
    intro b
    cases b with
    | nil => rw [mt_none _ _ _ hc]; constructor
             · intro h; cases h
             · rintro ⟨d, h, _⟩; cases h
    | cons d b =>
      rw [mt_one _ _ _ _ _ hc, Bool.and_eq_true]
      constructor
      · rintro ⟨h, h2⟩
        have : b = [] := by simpa [mt] using h2
        subst this; exact ⟨d, rfl, h⟩
      · rintro ⟨x, e, h⟩
        simp at e
        obtain ⟨rfl, rfl⟩ := e
        exact ⟨h, rfl⟩
  refine bool_iff ⟨fun h => ?_, fun h => ?_⟩
  · obtain ⟨a, b, e, ha, hb⟩ := (mt_app _ _ _ _).1 h
    obtain ⟨d, rfl, hd⟩ := (h1 b).1 hb
    rw [ht] at e
    have e1 := List.append_inj_left' e rfl
    have e2 := List.append_inj_right' e rfl
    simp at e2
    rw [Bool.and_eq_true]
    refine ⟨by rw [e1]; exact ha, ?_⟩
    rw [e2]; exact hd
  · rw [Bool.and_eq_true] at h
    exact (mt_app _ _ _ _).2 ⟨_, [t[k]], ht, h.1, (h1 _).2 ⟨_, rfl, h.2⟩⟩

theorem row_one0 (p : List UInt8) (c : UInt8) (hc : c ≠ 42) : mt false (p ++ [c]) [] = false := by
  rw [mt_end]; simp [least, hc]

theorem least_count (p : List UInt8) : (p.length : Int) - (p.count 42 : Int) = (least p : Int) := by
  induction p with
  | nil => rfl
  | cons c p ih =>
    by_cases e : c = 42
    · subst e; simp [least] at ih ⊢; omega
    · simp [least, e] at ih ⊢; omega
end Go.Proofs.YtnpgmekgmelamaaGreat
