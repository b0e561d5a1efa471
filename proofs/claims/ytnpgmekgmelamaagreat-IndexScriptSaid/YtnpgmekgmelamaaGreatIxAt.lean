/-
  What is proved: what an index in memory is: its globs, the lists of its literals, its automata, each block with a colour; that it stays one while other blocks change.
-/
import Derived.Test.YtnpgmekgmelamaaGreatIxAuto
namespace Go.Proofs.YtnpgmekgmelamaaGreat
open Go.RowKit Go.Shelf Go.Maps

inductive Col where
  | free
  | obj
  | globs
  | lits
  | others
  | auto
  | row (t : List UInt8)
  deriving DecidableEq

def atI (L : List G) (i : Int) : Option G := L.find? (fun g => g.id == i)
theorem atI_none {L : List G} {i : Int} (h : hasG L i = false) : atI L i = none := by
  unfold atI
  rw [List.find?_eq_none]
  intro g hg
  simpa using hasG_no h hg
theorem atI_some {L : List G} (hs : Sorted L) {g : G} (hg : g ∈ L) : atI L g.id = some g := by
  unfold atI
  cases e : L.find? (fun h => h.id == g.id) with
  | none =>
    rw [List.find?_eq_none] at e
    exact absurd (e g hg) (by simp)
  | some h =>
    have h1 := List.find?_some e
    have h2 := List.mem_of_find?_eq_some e
    rw [sorted_one hs h2 hg (by simpa using h1)]
theorem atI_mem {L : List G} {i : Int} {g : G} (h : atI L i = some g) : g ∈ L ∧ g.id = i := by
  unfold atI at h
  exact ⟨List.mem_of_find?_eq_some h, by simpa using List.find?_some h⟩
theorem atI_has {L : List G} {i : Int} : (atI L i).isSome = hasG L i := by
  unfold atI hasG
  rw [Bool.eq_iff_iff]
  simp
theorem atI_ins {L : List G} (hs : Sorted L) {g : G} (hn : hasG L g.id = false) (i : Int) : atI (insG g L) i = if i = g.id then some g else atI L i := by
  have hs2 := insG_sorted g L hs hn
  by_cases h : i = g.id
  · rw [if_pos h, h]
    exact atI_some hs2 (insG_mem.2 (.inl rfl))
  · rw [if_neg h]
    cases e : atI L i with
    | none =>
      refine atI_none ?_
      have : hasG L i = false := by rw [← atI_has, e]; rfl
      unfold hasG at this ⊢
      rw [List.any_eq_false] at this ⊢
      intro x hx
      rcases insG_mem.1 hx with rfl | hx
      · simpa using fun e2 => h e2.symm
      · exact this x hx
    | some h2 =>
      obtain ⟨h3, h4⟩ := atI_mem e
      rw [← h4]
      exact atI_some hs2 (insG_mem.2 (.inr h3))
theorem atI_del {L : List G} (hs : Sorted L) (j i : Int) : atI (delG j L) i = if i = j then none else atI L i := by
  by_cases h : i = j
  · rw [if_pos h]
    refine atI_none ?_
    unfold hasG
    rw [List.any_eq_false]
    intro x hx
    have := (delG_mem.1 hx).2
    rw [h]
    simpa using this
  · rw [if_neg h]
    cases e : atI L i with
    | none =>
      refine atI_none ?_
      have : hasG L i = false := by rw [← atI_has, e]; rfl
      unfold hasG at this ⊢
      rw [List.any_eq_false] at this ⊢
      exact fun x hx => this x (delG_mem.1 hx).1
    | some h2 =>
      obtain ⟨h3, h4⟩ := atI_mem e
      rw [← h4]
      exact atI_some (delG_sorted j hs) (delG_mem.2 ⟨h3, by omega⟩)

def globF (L : List G) : Lit → Option Value
  | .int _ i => (atI L i).map globV
  | _ => none
def otherF (L : List G) (ao : Int → Nat) : Lit → Option Value
  | .int _ i => (atI L i).bind fun g => if keyG g = none then some (.pointer (some ⟨ao i, 0, none⟩)) else none
  | _ => none
def litF (Fl : List UInt8 → Option Value) : Lit → Option Value
  | .string t => Fl t
  | _ => none
/-- The numbers of the literals kept under t. -/
def under (L : List G) (t : List UInt8) : List Int := (L.filter fun g => keyG g == some t).map (·.id)

structure IdxAt (W : World) (x : Nat) (L : List G) (N base : Nat) (col : Nat → Col) (most bg bl bo cl co : Nat) (Fl : List UInt8 → Option Value) (ao : Int → Nat) : Prop where
  obj : ObjAt W x most bg bl bo
  mst : 1 ≤ most ∧ most ≤ 256
  srt : Sorted L
  ids : ∀ g, g ∈ L → (Lit.int .i64 g.id).wf = true ∧ 0 ≤ g.id
  chk : ∀ g, g ∈ L → checkN g.p.size = 0
  len : L.length ≤ 200
  globs : MapL 3 W bg L.length (globF L)
  cln : cl ≤ N
  con : co ≤ N
  lits : MapL 9 W bl cl (litF Fl)
  rows : ∀ t v, Fl t = some v → ∃ zs g cap, v = .slice (some ⟨g, 0, none⟩) zs.length cap ∧ W.ownsRow base 3 1 v zs.length (zs.map (Value.int .i64)) ∧ zs.Perm (under L t) ∧ zs ≠ [] ∧ col g = .row t
  nol : ∀ t, Fl t = none → ∀ g, g ∈ L → keyG g ≠ some t
  others : MapL 3 W bo co (otherF L ao)
  autos : ∀ g, g ∈ L → keyG g = none → ∃ lo hi, AutoIn lo hi W (ao g.id) (normP g.p) g.f ∧ ∀ k, lo ≤ k → k < hi → col k = .auto
  cx : col x = .obj
  cg : col bg = .globs
  cl' : col bl = .lits
  co' : col bo = .others
  bas : ∀ k, col k ≠ .free → base ≤ k ∧ k < W.heap.size

/-- An index of New, with the globs of L; N: how many calls it has seen at most; from block base on. -/
def Idx (W : World) (x : Nat) (L : List G) (N base : Nat) (col : Nat → Col) : Prop := ∃ most bg bl bo cl co Fl ao, IdxAt W x L N base col most bg bl bo cl co Fl ao

theorem IdxAt.same {W W' : World} {x : Nat} {L : List G} {N base : Nat} {col : Nat → Col} {most bg bl bo cl co : Nat} {Fl : List UInt8 → Option Value} {ao : Int → Nat} (h : IdxAt W x L N base col most bg bl bo cl co Fl ao)
    (hz : W.heap.size ≤ W'.heap.size) (hk : ∀ k, k < W.heap.size → col k ≠ .free → W'.heap[k]? = W.heap[k]?) : IdxAt W' x L N base col most bg bl bo cl co Fl ao := by
  have hk2 : ∀ k, col k ≠ .free → W'.heap[k]? = W.heap[k]? := fun k hc => hk k (h.bas k hc).2 hc
  refine ⟨h.obj.same (hk2 x (by rw [h.cx]; decide)), h.mst, h.srt, h.ids, h.chk, h.len, h.globs.same (hk2 bg (by rw [h.cg]; decide)), h.cln, h.con, h.lits.same (hk2 bl (by rw [h.cl']; decide)), fun t v hv => ?_, h.nol, h.others.same (hk2 bo (by rw [h.co']; decide)), fun g hg hkn => ?_, h.cx, h.cg, h.cl', h.co', fun k hc => ⟨(h.bas k hc).1, by have := (h.bas k hc).2; omega⟩⟩
  · obtain ⟨zs, g, cap, rfl, h1, h2, h3, h4⟩ := h.rows t v hv
    refine ⟨zs, g, cap, rfl, row_kept h1 (fun k e => ?_), h2, h3, h4⟩
    have : g = k := by injection e
    subst this
    exact hk2 _ (by rw [h4]; intro e; cases e)
  · obtain ⟨lo, hi, h1, h2⟩ := h.autos g hg hkn
    exact ⟨lo, hi, h1.same hz (fun k a b => hk2 k (by rw [h2 k a b]; decide)), h2⟩
theorem Idx.same {W W' : World} {x : Nat} {L : List G} {N base : Nat} {col : Nat → Col} (h : Idx W x L N base col) (hz : W.heap.size ≤ W'.heap.size) (hk : ∀ k, k < W.heap.size → col k ≠ .free → W'.heap[k]? = W.heap[k]?) : Idx W' x L N base col := by
  obtain ⟨most, bg, bl, bo, cl, co, Fl, ao, h⟩ := h
  exact ⟨most, bg, bl, bo, cl, co, Fl, ao, h.same hz hk⟩
theorem Idx.below {W W' : World} {x : Nat} {L : List G} {N base : Nat} {col : Nat → Col} (h : Idx W x L N base col) (hb : Below W.heap.size W W') : Idx W' x L N base col := h.same hb.size (fun k hk _ => hb.block k hk)

/-- What a method that writes may do: what is not the index's own stands. -/
structure Step (col : Nat → Col) (W : World) (col' : Nat → Col) (W' : World) : Prop where
  os : Below 0 W W'
  old : ∀ k, k < W.heap.size → col' k = col k
  keep : ∀ k, k < W.heap.size → col k = .free → W'.heap[k]? = W.heap[k]?
theorem Step.refl (col : Nat → Col) (W : World) : Step col W col W := ⟨Below.refl _ _, fun _ _ => rfl, fun _ _ _ => rfl⟩
theorem Step.trans {c0 c1 c2 : Nat → Col} {W0 W1 W2 : World} (h : Step c0 W0 c1 W1) (k : Step c1 W1 c2 W2) : Step c0 W0 c2 W2 :=
  ⟨h.os.trans k.os, fun i hi => (k.old i (by have := h.os.size; omega)).trans (h.old i hi), fun i hi hf => (k.keep i (by have := h.os.size; omega) (by rw [h.old i hi]; exact hf)).trans (h.keep i hi hf)⟩
theorem Step.below {col : Nat → Col} {W W' : World} (hb : Below W.heap.size W W') : Step col W col W' := ⟨hb.mono (Nat.zero_le _), fun _ _ => rfl, fun k hk _ => hb.block k hk⟩
theorem Step.from {col col' : Nat → Col} {W W' : World} {base : Nat} (h : Step col W col' W') (hb : base ≤ W.heap.size) (hc : ∀ k, k < base → col k = .free) : Below base W W' :=
  ⟨h.os.os, h.os.tape, h.os.output, h.os.size, fun k hk => h.keep k (by omega) (hc k hk)⟩
theorem Idx.free {W : World} {x : Nat} {L : List G} {N base : Nat} {col : Nat → Col} (h : Idx W x L N base col) {k : Nat} (hk : k < base ∨ W.heap.size ≤ k) : col k = .free := by
  obtain ⟨most, bg, bl, bo, cl, co, Fl, ao, h⟩ := h
  by_cases e : col k = .free
  · exact e
  · have := h.bas k e; omega
end Go.Proofs.YtnpgmekgmelamaaGreat
