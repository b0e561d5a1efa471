/-
  What is proved: plain facts on the tables of globs: classes of bytes, the sets of states in their order, the rows of numbers; what a run along a table comes to.
-/
import Derived.Test.YtnpgmekgmelamaaGreatNfObj
namespace Go.Proofs.YtnpgmekgmelamaaGreat

/-! Lists without repetition, in the order in which their members come -/
def addL (ss : List (List Int)) (l : List Int) : List (List Int) := if l ∈ ss then ss else ss ++ [l]
def addsL (ss ls : List (List Int)) : List (List Int) := ls.foldl addL ss
theorem addL_mem (ss : List (List Int)) (l : List Int) : l ∈ addL ss l := by
  unfold addL; split
  · assumption
  · simp
theorem addL_pre (ss : List (List Int)) (l : List Int) : ss <+: addL ss l := by
  unfold addL; split
  · exact List.prefix_refl _
  · exact List.prefix_append _ _
theorem addsL_nil (ss : List (List Int)) : addsL ss [] = ss := rfl
theorem addsL_cons (ss ls : List (List Int)) (l : List Int) : addsL ss (l :: ls) = addsL (addL ss l) ls := rfl
theorem addsL_snoc (ss ls : List (List Int)) (l : List Int) : addsL ss (ls ++ [l]) = addL (addsL ss ls) l := by simp [addsL]
theorem addsL_pre : ∀ (ls ss : List (List Int)), ss <+: addsL ss ls
  | [], ss => List.prefix_refl ss
  | l :: ls, ss => (addL_pre ss l).trans (addsL_pre ls (addL ss l))
theorem addsL_mem : ∀ (ls ss : List (List Int)) (l : List Int), l ∈ ls → l ∈ addsL ss ls
  | x :: ls, ss, l, h => by
    rw [addsL_cons]
    rcases List.mem_cons.1 h with rfl | h
    · exact (addsL_pre ls _).subset (addL_mem _ _)
    · exact addsL_mem ls _ l h
theorem addL_nodup {ss : List (List Int)} (h : ss.Nodup) (l : List Int) : (addL ss l).Nodup := by
  unfold addL; split
  · exact h
  · rename_i hn
    rw [List.nodup_append]
    exact ⟨h, by simp, fun a ha b hb e => by
      have : b = l := by simpa using hb
      subst this; subst e; exact hn ha⟩
theorem addsL_nodup : ∀ (ls : List (List Int)) {ss : List (List Int)}, ss.Nodup → (addsL ss ls).Nodup
  | [], _, h => h
  | l :: ls, _, h => addsL_nodup ls (addL_nodup h l)
theorem idx_pre {a b : List (List Int)} {l : List Int} (h : a <+: b) (hl : l ∈ a) : b.idxOf l = a.idxOf l := by
  obtain ⟨t, rfl⟩ := h
  rw [List.idxOf_append, if_pos hl]
theorem idx_new {a : List (List Int)} {l : List Int} (h : l ∉ a) : (a ++ [l]).idxOf l = a.length := by
  rw [List.idxOf_append, if_neg h]; simp
theorem idx_get {a : List (List Int)} {l : List Int} (h : l ∈ a) : a[a.idxOf l]? = some l := by
  rw [List.getElem?_eq_getElem (List.idxOf_lt_length_of_mem h), List.getElem_idxOf]
theorem addsL_sub {ls ss : List (List Int)} (h : ∀ l, l ∈ ls → l ∈ ss) : addsL ss ls = ss := by
  induction ls with
  | nil => rfl
  | cons l ls ih => rw [addsL_cons, show addL ss l = ss by unfold addL; rw [if_pos (h l (by simp))]]; exact ih (fun x hx => h x (by simp [hx]))

/-! The sample of the classes, and the classes -/
/-- The class of a byte (as it counts), over a sample of each class. -/
def clsL (SA : List UInt8) (c : UInt8) : Nat := if c ∈ SA then SA.idxOf c else 0
/-- The sample is fit for the glob B: the * stands for class 0, and each letter of the glob is there. -/
structure Fits (B SA : List UInt8) : Prop where
  head : SA[0]? = some 42
  has : ∀ c, c ∈ B → c ≠ 42 → c ≠ 63 → c ∈ SA
  only : ∀ c, c ∈ SA → c = 42 ∨ (c ∈ B ∧ c ≠ 63)
theorem Fits.pos {B SA : List UInt8} (h : Fits B SA) : 0 < SA.length := (List.getElem?_eq_some_iff.1 h.head).1
theorem clsL_lt {SA : List UInt8} (h : 0 < SA.length) (c : UInt8) : clsL SA c < SA.length := by
  unfold clsL; split
  · exact List.idxOf_lt_length_of_mem ‹_›
  · exact h

/-- The list that a byte leads to. -/
def stepL (B : List UInt8) (l : List Int) (c : UInt8) : List Int := intsF (B.length + 1) (stepF B c (inL l))
def startL (B : List UInt8) : List Int := intsF (B.length + 1) (startF B)

theorem goes_other {B : List UInt8} {c : UInt8} {i : Nat} (h : c ∉ B ∨ c = 63 ∨ c = 42) : goes B c i = goes B 42 i := by
  unfold goes
  by_cases hi : i < B.length
  · cases hs : isStar B i with
    | true => simp
    | false =>
      rw [List.getElem?_eq_getElem hi]
      have h42 : ¬ (B[i] = 42) := by
        intro e
        rw [isStar, List.getElem?_eq_getElem hi, e] at hs
        exact absurd hs (by decide)
      have hb : (some B[i] == some (42 : UInt8)) = false := by simpa using h42
      rw [hb]
      rcases h with h | rfl | rfl
      · have : (some B[i] == some c) = false := by
          have : ¬ (B[i] = c) := fun e => h (e ▸ List.getElem_mem hi)
          simpa using this
        rw [this]
      · cases (some B[i] == some (63 : UInt8)) <;> simp
      · rw [hb]
  · rw [decide_eq_false hi]; rfl
theorem mv_goes {B : List UInt8} {c d : UInt8} (h : ∀ i, goes B c i = goes B d i) (g : Nat → Bool) : mv B c g = mv B d g := by
  funext i
  cases i with
  | zero => rfl
  | succ i => simp only [mv]; rw [h]
theorem stepF_goes {B : List UInt8} {c d : UInt8} (h : ∀ i, goes B c i = goes B d i) (g : Nat → Bool) : stepF B c g = stepF B d g := by
  unfold stepF; rw [mv_goes h]

/-- Bytes of one class lead to the same set. -/
theorem step_cls {B SA : List UInt8} (h : Fits B SA) (c : UInt8) (l : List Int) : ∃ d, SA[clsL SA c]? = some d ∧ stepL B l d = stepL B l c := by
  unfold clsL
  split
  · rename_i hc
    exact ⟨c, by rw [List.getElem?_eq_getElem (List.idxOf_lt_length_of_mem hc), List.getElem_idxOf], rfl⟩
  · rename_i hc
    refine ⟨42, h.head, ?_⟩
    unfold stepL
    rw [stepF_goes (c := 42) (d := c)]
    intro i
    symm
    apply goes_other
    by_cases hb : c ∈ B
    · by_cases e1 : c = 42
      · exact .inr (.inr e1)
      · by_cases e2 : c = 63
        · exact .inr (.inl e2)
        · exact absurd (h.has c hb e1 e2) hc
    · exact .inl hb

/-- A byte that stands at no position of the list leads where the * does. -/
theorem step_quiet {B : List UInt8} {c : UInt8} {l : List Int} (h : ∀ i : Nat, (i : Int) ∈ l → i < B.length → B[i]? ≠ some c) : stepL B l c = stepL B l 42 := by
  unfold stepL
  have key : ∀ i, (inL l i && goes B c i) = (inL l i && goes B 42 i) := by
    intro i
    cases hi : inL l i with
    | false => rfl
    | true =>
      show goes B c i = goes B 42 i
      have hm : (i : Int) ∈ l := by simpa [inL] using hi
      unfold goes
      by_cases hl : i < B.length
      · have h1 : (B[i]? == some c) = false := by
          have := h i hm hl
          simpa using this
        cases hs : isStar B i with
        | true => simp
        | false =>
          have h2 : (B[i]? == some (42 : UInt8)) = false := by simpa [isStar] using hs
          rw [h1, h2]
      · rw [decide_eq_false hl]; rfl
  have : mv B c (inL l) = mv B 42 (inL l) := by
    funext i
    cases i with
    | zero => rfl
    | succ i => simp only [mv]; rw [key]
  unfold stepF
  rw [this]

/-! The sets, in their order -/
/-- The rows: which lists a list's bytes lead to, by class. -/
def nextsL (B SA : List UInt8) (l : List Int) : List (List Int) := SA.map (stepL B l)
def growS (B SA : List UInt8) (ss : List (List Int)) (i : Nat) : List (List Int) := match ss[i]? with
  | none => ss
  | some l => addsL ss (nextsL B SA l)
def setsL (B SA : List UInt8) : Nat → List (List Int)
  | 0 => [startL B]
  | i + 1 => growS B SA (setsL B SA i) i

theorem growS_pre (B SA : List UInt8) (ss : List (List Int)) (i : Nat) : ss <+: growS B SA ss i := by
  unfold growS; split
  · exact List.prefix_refl _
  · exact addsL_pre _ _
theorem setsL_pre (B SA : List UInt8) {i j : Nat} (h : i ≤ j) : setsL B SA i <+: setsL B SA j := by
  induction j with
  | zero => have : i = 0 := by omega
            subst this; exact List.prefix_refl _
  | succ j ih =>
    by_cases e : i = j + 1
    · subst e; exact List.prefix_refl _
    · exact (ih (by omega)).trans (growS_pre _ _ _ _)
theorem setsL_nodup (B SA : List UInt8) : ∀ i, (setsL B SA i).Nodup
  | 0 => by simp [setsL]
  | i + 1 => by
    have := setsL_nodup B SA i
    show (growS _ _ _ _).Nodup
    unfold growS; split
    · exact this
    · exact addsL_nodup _ this
theorem setsL_len_mono (B SA : List UInt8) {i j : Nat} (h : i ≤ j) : (setsL B SA i).length ≤ (setsL B SA j).length := (setsL_pre B SA h).length_le
theorem setsL_pos (B SA : List UInt8) (i : Nat) : 0 < (setsL B SA i).length := by
  have := setsL_len_mono B SA (Nat.zero_le i)
  have h0 : (setsL B SA 0).length = 1 := rfl
  omega
theorem setsL_stop {B SA : List UInt8} {m : Nat} (h : (setsL B SA m).length ≤ m) : ∀ k, setsL B SA (m + k) = setsL B SA m
  | 0 => rfl
  | k + 1 => by
    show growS B SA (setsL B SA (m + k)) (m + k) = _
    rw [setsL_stop h k]
    unfold growS
    rw [List.getElem?_eq_none (by omega)]
/-- All sets are found: there are m. -/
def Closed (B SA : List UInt8) (m : Nat) : Prop := (setsL B SA m).length = m
theorem Closed.unique {B SA : List UInt8} {m k : Nat} (hm : Closed B SA m) (hk : Closed B SA k) : m = k := by
  unfold Closed at hm hk
  rcases Nat.le_total m k with h | h
  · obtain ⟨d, rfl⟩ := Nat.exists_eq_add_of_le h
    rw [setsL_stop (by omega)] at hk; omega
  · obtain ⟨d, rfl⟩ := Nat.exists_eq_add_of_le h
    rw [setsL_stop (by omega)] at hm; omega
theorem Closed.least {B SA : List UInt8} {m : Nat} (hm : Closed B SA m) (i : Nat) : (setsL B SA i).length ≤ m := by
  rcases Nat.le_total i m with h | h
  · have := setsL_len_mono B SA h
    unfold Closed at hm; omega
  · obtain ⟨d, rfl⟩ := Nat.exists_eq_add_of_le h
    rw [setsL_stop (by unfold Closed at hm; omega)]
    unfold Closed at hm; omega

/-- Row i, over the sets that are found by then, and by any later time. -/
def rowL (B SA : List UInt8) (ss : List (List Int)) (l : List Int) : List Int := SA.map fun c => ((ss.idxOf (stepL B l c) : Nat) : Int)
theorem rowL_pre {B SA : List UInt8} {a b : List (List Int)} {l : List Int} (h : a <+: b) (hm : ∀ c, c ∈ SA → stepL B l c ∈ a) : rowL B SA b l = rowL B SA a l := by
  unfold rowL
  apply List.map_congr_left
  intro c hc
  rw [idx_pre h (hm c hc)]
theorem sets_at {B SA : List UInt8} {i : Nat} {l : List Int} (hl : (setsL B SA i)[i]? = some l) : setsL B SA (i + 1) = addsL (setsL B SA i) (nextsL B SA l) := by
  show growS _ _ _ _ = _
  unfold growS
  rw [hl]
theorem sets_step {B SA : List UInt8} {i : Nat} {l : List Int} (hl : (setsL B SA i)[i]? = some l) (c : UInt8) (hc : c ∈ SA) : stepL B l c ∈ setsL B SA (i + 1) := by
  rw [sets_at hl]
  exact addsL_mem _ _ _ (by unfold nextsL; exact List.mem_map_of_mem hc)

/-- The whole table: rows and what accepts. -/
def tabRows (B SA : List UInt8) (m : Nat) : List (List Int) := (setsL B SA m).map (rowL B SA (setsL B SA m))
def tabAccs (B SA : List UInt8) (m : Nat) : List Bool := (setsL B SA m).map fun l => inL l B.length
/-- The first i rows, as they are made. -/
def rowsTo (B SA : List UInt8) (i : Nat) : List (List Int) := ((setsL B SA i).take i).map (rowL B SA (setsL B SA i))
def accsTo (B SA : List UInt8) (i : Nat) : List Bool := ((setsL B SA i).take i).map fun l => inL l B.length
theorem take_pre {α : Type} {a b : List α} (h : a <+: b) {i : Nat} (hi : i ≤ a.length) : b.take i = a.take i := by
  obtain ⟨t, rfl⟩ := h
  rw [List.take_append_of_le_length hi]
theorem get_pre {α : Type} {a b : List α} (h : a <+: b) {i : Nat} {x : α} (hi : a[i]? = some x) : b[i]? = some x := by
  obtain ⟨t, rfl⟩ := h
  rw [List.getElem?_append_left (List.getElem?_eq_some_iff.1 hi).1]; exact hi
theorem rowsTo_succ {B SA : List UInt8} {i : Nat} {l : List Int} (hl : (setsL B SA i)[i]? = some l) : rowsTo B SA (i + 1) = rowsTo B SA i ++ [rowL B SA (setsL B SA (i + 1)) l] := by
  have hlt := (List.getElem?_eq_some_iff.1 hl).1
  have hp := setsL_pre B SA (Nat.le_succ i)
  unfold rowsTo
  have h1 : (setsL B SA (i + 1)).take (i + 1) = (setsL B SA i).take i ++ [l] := by
    rw [List.take_add_one, take_pre hp (by omega), get_pre hp hl]; rfl
  rw [h1, List.map_append]
  congr 1
  apply List.map_congr_left
  intro x hx
  obtain ⟨j, hj⟩ := List.mem_iff_getElem?.1 hx
  have hji : j < i := by
    have := (List.getElem?_eq_some_iff.1 hj).1
    simp at this; omega
  rw [List.getElem?_take_of_lt hji] at hj
  apply rowL_pre hp
  intro c hc
  have hp2 := setsL_pre B SA (show j + 1 ≤ i by omega)
  apply hp2.subset
  apply sets_step _ c hc
  -- row j's set stood there at j already
  by_cases hjl : j < (setsL B SA j).length
  · have e := get_pre (setsL_pre B SA (show j ≤ i by omega)) (List.getElem?_eq_getElem hjl)
    rw [e] at hj
    rw [List.getElem?_eq_getElem hjl]; exact hj
  · exfalso
    have hs := setsL_stop (show (setsL B SA j).length ≤ j by omega) (i - j)
    rw [show j + (i - j) = i by omega] at hs
    rw [hs] at hj
    have := (List.getElem?_eq_some_iff.1 hj).1
    omega
theorem accsTo_succ {B SA : List UInt8} {i : Nat} {l : List Int} (hl : (setsL B SA i)[i]? = some l) : accsTo B SA (i + 1) = accsTo B SA i ++ [inL l B.length] := by
  have hlt := (List.getElem?_eq_some_iff.1 hl).1
  have hp := setsL_pre B SA (Nat.le_succ i)
  unfold accsTo
  have h1 : (setsL B SA (i + 1)).take (i + 1) = (setsL B SA i).take i ++ [l] := by
    rw [List.take_add_one, take_pre hp (by omega), get_pre hp hl]; rfl
  rw [h1, List.map_append]; rfl
theorem rowsTo_closed {B SA : List UInt8} {m : Nat} (h : Closed B SA m) : rowsTo B SA m = tabRows B SA m := by
  unfold rowsTo tabRows; rw [List.take_of_length_le (by unfold Closed at h; omega)]
theorem accsTo_closed {B SA : List UInt8} {m : Nat} (h : Closed B SA m) : accsTo B SA m = tabAccs B SA m := by
  unfold accsTo tabAccs; rw [List.take_of_length_le (by unfold Closed at h; omega)]
theorem rowsTo_len (B SA : List UInt8) {i : Nat} (h : i ≤ (setsL B SA i).length) : (rowsTo B SA i).length = i := by unfold rowsTo; simp; omega
theorem accsTo_len (B SA : List UInt8) {i : Nat} (h : i ≤ (setsL B SA i).length) : (accsTo B SA i).length = i := by unfold accsTo; simp; omega

/-! In a table that is whole -/
theorem closed_step {B SA : List UInt8} {m : Nat} (h : Closed B SA m) {i : Nat} {l : List Int} (hl : (setsL B SA m)[i]? = some l) (c : UInt8) (hc : c ∈ SA) : stepL B l c ∈ setsL B SA m := by
  have him : i < m := by have := (List.getElem?_eq_some_iff.1 hl).1; unfold Closed at h; omega
  have hjl : i < (setsL B SA i).length := by
    rcases Nat.lt_or_ge i (setsL B SA i).length with h1 | h1
    · exact h1
    · exfalso
      have hs := setsL_stop h1 (m - i)
      rw [show i + (m - i) = m by omega] at hs
      unfold Closed at h; rw [hs] at h; omega
  have e := get_pre (setsL_pre B SA (show i ≤ m by omega)) (List.getElem?_eq_getElem hjl)
  rw [e] at hl
  have hl' : (setsL B SA i)[i]? = some l := by rw [List.getElem?_eq_getElem hjl]; exact hl
  exact (setsL_pre B SA (show i + 1 ≤ m by omega)).subset (sets_step hl' c hc)

/-- What a run along the table of a glob comes to: the number of the set. -/
def stepN (rows : List (List Int)) (s k : Nat) : Nat := (((rows.getD s []).getD k 0)).toNat
def runN (rows : List (List Int)) (cl : UInt8 → Nat) (t : List UInt8) (s : Nat) : Nat := t.foldl (fun s c => stepN rows s (cl c)) s

theorem tab_step {B SA : List UInt8} {m : Nat} (hF : Fits B SA) (h : Closed B SA m) {s : Nat} {l : List Int} (hl : (setsL B SA m)[s]? = some l) (c : UInt8) :
    (setsL B SA m)[stepN (tabRows B SA m) s (clsL SA c)]? = some (stepL B l c) := by
  obtain ⟨d, hd, e⟩ := step_cls hF c l
  have hdm : d ∈ SA := List.mem_iff_getElem?.2 ⟨_, hd⟩
  have hm := closed_step h hl d hdm
  have h1 : (tabRows B SA m).getD s [] = rowL B SA (setsL B SA m) l := by
    unfold tabRows; rw [List.getD_eq_getElem?_getD, List.getElem?_map, hl]; rfl
  have h2 : (rowL B SA (setsL B SA m) l).getD (clsL SA c) 0 = (((setsL B SA m).idxOf (stepL B l d) : Nat) : Int) := by
    unfold rowL; rw [List.getD_eq_getElem?_getD, List.getElem?_map, hd]; rfl
  unfold stepN
  rw [h1, h2, Int.toNat_natCast, idx_get hm, e]

theorem runF_start (B : List UInt8) (l : List Int) (g : Nat → Bool) (e : l = intsF (B.length + 1) g) (c : UInt8) : stepL B l c = intsF (B.length + 1) (stepF B c g) := by
  subst e
  unfold stepL
  apply intsF_congr
  intro i hi
  exact stepF_congr (fun j hj => inL_ints hj) i hi

theorem tab_run {B SA : List UInt8} {m : Nat} (hF : Fits B SA) (h : Closed B SA m) : ∀ (t : List UInt8) (s : Nat) (g : Nat → Bool), (setsL B SA m)[s]? = some (intsF (B.length + 1) g) →
    (setsL B SA m)[runN (tabRows B SA m) (clsL SA) t s]? = some (intsF (B.length + 1) (runF B t g))
  | [], _, _, hs => hs
  | c :: t, s, g, hs => by
    rw [runF_cons]
    show (setsL B SA m)[runN (tabRows B SA m) (clsL SA) t (stepN (tabRows B SA m) s (clsL SA c))]? = _
    apply tab_run hF h t
    rw [tab_step hF h hs c, runF_start B _ g rfl c]

theorem sets_first (B SA : List UInt8) (m : Nat) : (setsL B SA m)[0]? = some (startL B) := get_pre (setsL_pre B SA (Nat.zero_le m)) rfl

/-- The table accepts what the glob matches. -/
theorem tab_match {B SA : List UInt8} {m : Nat} (hF : Fits B SA) (h : Closed B SA m) (t : List UInt8) : (tabAccs B SA m).getD (runN (tabRows B SA m) (clsL SA) t 0) false = mt false B t := by
  have := tab_run hF h t 0 (startF B) (sets_first B SA m)
  unfold tabAccs
  rw [List.getD_eq_getElem?_getD, List.getElem?_map, this, ← run_end]
  exact inL_ints (by omega)

/-! The numbers of a table are in their bounds -/
theorem tabRows_len {B SA : List UInt8} {m : Nat} (h : Closed B SA m) : (tabRows B SA m).length = m := by unfold tabRows; rw [List.length_map]; exact h
theorem tabAccs_len {B SA : List UInt8} {m : Nat} (h : Closed B SA m) : (tabAccs B SA m).length = m := by unfold tabAccs; rw [List.length_map]; exact h
theorem tabRow_len {B SA : List UInt8} {m : Nat} {r : List Int} (hr : r ∈ tabRows B SA m) : r.length = SA.length := by
  unfold tabRows at hr
  obtain ⟨l, _, rfl⟩ := List.mem_map.1 hr
  simp [rowL]
theorem tabRow_lt {B SA : List UInt8} {m : Nat} (h : Closed B SA m) {r : List Int} (hr : r ∈ tabRows B SA m) {x : Int} (hx : x ∈ r) : 0 ≤ x ∧ x < m := by
  unfold tabRows at hr
  obtain ⟨l, hl, rfl⟩ := List.mem_map.1 hr
  obtain ⟨c, hc, rfl⟩ := List.mem_map.1 hx
  obtain ⟨i, hi⟩ := List.mem_iff_getElem?.1 hl
  have := List.idxOf_lt_length_of_mem (closed_step h hi c hc)
  unfold Closed at h
  omega
end Go.Proofs.YtnpgmekgmelamaaGreat
