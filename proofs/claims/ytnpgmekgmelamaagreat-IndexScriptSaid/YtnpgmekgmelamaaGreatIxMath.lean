/-
  What is proved: plain facts on lists of globs with numbers: what is matched, what a literal is kept under, putting and dropping by number.
-/
import Derived.Test.YtnpgmekgmelamaaGreatGlMath
import Derived.Test.YtnpgmekgmelamaaGreatNfTake
import Derived.Lib.SmallJoins
namespace Go.Proofs.YtnpgmekgmelamaaGreat

/-- A glob with its number. -/
structure G where
  id : Int
  p : ByteArray
  f : Bool

def fL (f : Bool) (l : List UInt8) : List UInt8 := if f then foldL l else l
/-- What a literal is kept under. -/
def keyG (g : G) : Option (List UInt8) := if litL g.p.data.toList then some (fL g.f g.p.data.toList) else none
def mG (t : List UInt8) (g : G) : Bool := mt g.f g.p.data.toList t
theorem mG_key {g : G} {k : List UInt8} (h : keyG g = some k) (t : List UInt8) : mG t g = (k == fL g.f t) := by
  unfold keyG at h
  split at h
  · rename_i hl
    injection h with h
    subst h
    unfold mG fL
    rw [mt_lit g.f _ _ hl]
    cases g.f <;> rfl
  · cases h
theorem mG_norm (g : G) (t : List UInt8) : mt g.f (normP g.p) t = mG t g := by
  unfold mG normP
  rw [norm_mt]
  rfl

def Sorted (L : List G) : Prop := L.Pairwise (fun a b => a.id < b.id)
def hasG (L : List G) (i : Int) : Bool := L.any (fun g => g.id == i)
theorem hasG_iff {L : List G} {i : Int} : hasG L i = true ↔ ∃ g, g ∈ L ∧ g.id = i := by simp [hasG]
theorem hasG_no {L : List G} {i : Int} (h : hasG L i = false) {g : G} (hg : g ∈ L) : g.id ≠ i := fun e => by
  have := hasG_iff.2 ⟨g, hg, e⟩
  rw [h] at this
  cases this
def insG (g : G) : List G → List G
  | [] => [g]
  | h :: r => if h.id < g.id then h :: insG g r else g :: h :: r
def delG (i : Int) (L : List G) : List G := L.filter (fun g => g.id != i)
theorem insG_perm (g : G) : ∀ L : List G, (insG g L).Perm (g :: L)
  | [] => .refl _
  | h :: r => by
    unfold insG
    split
    · exact ((insG_perm g r).cons h).trans (.swap g h r)
    · exact .refl _
theorem insG_mem {g h : G} {L : List G} : h ∈ insG g L ↔ h = g ∨ h ∈ L := by rw [(insG_perm g L).mem_iff]; simp
theorem insG_len (g : G) (L : List G) : (insG g L).length = L.length + 1 := by rw [(insG_perm g L).length_eq]; rfl
theorem insG_sorted (g : G) : ∀ L : List G, Sorted L → hasG L g.id = false → Sorted (insG g L)
  | [], _, _ => List.pairwise_singleton _ _
  | h :: r, hs, hn => by
    have hs1 := (List.pairwise_cons.1 hs).1
    have hs2 := (List.pairwise_cons.1 hs).2
    unfold insG
    split
    · rename_i hl
      refine List.pairwise_cons.2 ⟨fun x hx => ?_, insG_sorted g r hs2 (by
        unfold hasG at hn ⊢
        rw [List.any_cons, Bool.or_eq_false_iff] at hn
        exact hn.2)⟩
      rcases insG_mem.1 hx with rfl | hx
      · exact hl
      · exact hs1 x hx
    · rename_i hl
      have hne := hasG_no hn (g := h) (by simp)
      refine List.pairwise_cons.2 ⟨fun x hx => ?_, hs⟩
      rcases List.mem_cons.1 hx with rfl | hx
      · omega
      · have := hs1 x hx; omega
theorem delG_mem {i : Int} {h : G} {L : List G} : h ∈ delG i L ↔ h ∈ L ∧ h.id ≠ i := by simp [delG]
theorem delG_sorted (i : Int) {L : List G} (h : Sorted L) : Sorted (delG i L) := h.sublist List.filter_sublist
theorem sorted_one : ∀ {L : List G}, Sorted L → ∀ {a b : G}, a ∈ L → b ∈ L → a.id = b.id → a = b
  | [], _, _, _, ha, _, _ => absurd ha (by simp)
  | h :: r, hs, a, b, ha, hb, e => by
    have hs1 := (List.pairwise_cons.1 hs).1
    have hs2 := (List.pairwise_cons.1 hs).2
    rcases List.mem_cons.1 ha with rfl | ha'
    · rcases List.mem_cons.1 hb with rfl | hb'
      · rfl
      · have := hs1 b hb'; omega
    · rcases List.mem_cons.1 hb with rfl | hb'
      · have := hs1 a ha'; omega
      · exact sorted_one hs2 ha' hb' e
theorem delG_perm {L : List G} (hs : Sorted L) {g : G} (hg : g ∈ L) : L.Perm (g :: delG g.id L) := by
  induction L with
  | nil => cases hg
  | cons h r ih =>
    have hs1 := (List.pairwise_cons.1 hs).1
    have hs2 := (List.pairwise_cons.1 hs).2
    rcases List.mem_cons.1 hg with rfl | hg'
    · have e : delG g.id (g :: r) = r := by
        unfold delG
        rw [List.filter_cons_of_neg (by simp)]
        refine List.filter_eq_self.2 fun x hx => ?_
        have := hs1 x hx
        simp
        omega
      rw [e]
    · have hne : h.id ≠ g.id := by have := hs1 g hg'; omega
      have e : delG g.id (h :: r) = h :: delG g.id r := by
        unfold delG
        rw [List.filter_cons_of_pos (by simpa using hne)]
      rw [e]
      exact ((ih hs2 hg').cons h).trans (.swap g h _)
theorem delG_len {L : List G} (hs : Sorted L) {g : G} (hg : g ∈ L) : (delG g.id L).length + 1 = L.length := by
  rw [(delG_perm hs hg).length_eq]; rfl
theorem ins_del {L : List G} (hs : Sorted L) (g : G) (hn : hasG L g.id = false) : delG g.id (insG g L) = L := by
  induction L with
  | nil => simp [delG, insG]
  | cons h r ih =>
    have hs1 := (List.pairwise_cons.1 hs).1
    have hs2 := (List.pairwise_cons.1 hs).2
    have hne := hasG_no hn (g := h) (by simp)
    have hn2 : hasG r g.id = false := by
      unfold hasG at hn ⊢
      rw [List.any_cons, Bool.or_eq_false_iff] at hn
      exact hn.2
    unfold insG
    split
    · have := ih hs2 hn2
      unfold delG at this ⊢
      rw [List.filter_cons_of_pos (by simpa using hne), this]
    · unfold delG
      rw [List.filter_cons_of_neg (by simp), List.filter_cons_of_pos (by simpa using hne)]
      congr 1
      exact List.filter_eq_self.2 fun x hx => by simpa using hasG_no hn2 hx
/-- Strictly rising lists with the same members are the same. -/
theorem rising_ext : ∀ {a b : List Int}, a.Pairwise (· < ·) → b.Pairwise (· < ·) → (∀ i, i ∈ a ↔ i ∈ b) → a = b
  | [], [], _, _, _ => rfl
  | [], y :: b, _, _, h => absurd ((h y).2 (by simp)) (by simp)
  | x :: a, [], _, _, h => absurd ((h x).1 (by simp)) (by simp)
  | x :: a, y :: b, ha, hb, h => by
    have ha1 := (List.pairwise_cons.1 ha).1
    have hb1 := (List.pairwise_cons.1 hb).1
    have hxy : x = y := by
      rcases List.mem_cons.1 ((h x).1 (by simp)) with e | e
      · exact e
      · rcases List.mem_cons.1 ((h y).2 (by simp)) with e2 | e2
        · exact e2.symm
        · have := ha1 y e2; have := hb1 x e; omega
    subst hxy
    congr 1
    refine rising_ext (List.pairwise_cons.1 ha).2 (List.pairwise_cons.1 hb).2 fun i => ⟨fun hi => ?_, fun hi => ?_⟩
    · rcases List.mem_cons.1 ((h i).1 (List.mem_cons_of_mem _ hi)) with e | e
      · have := ha1 i hi; omega
      · exact e
    · rcases List.mem_cons.1 ((h i).2 (List.mem_cons_of_mem _ hi)) with e | e
      · have := hb1 i hi; omega
      · exact e
theorem ids_rising {L : List G} (h : Sorted L) (q : G → Bool) : ((L.filter q).map (·.id)).Pairwise (· < ·) := by
  rw [List.pairwise_map]
  exact h.sublist List.filter_sublist
/-- Sorted, each once: rising. -/
theorem rising_of_sort {l : List Int} (hn : l.Nodup) : (l.mergeSort fun x y => decide (x ≤ y)).Pairwise (· < ·) := by
  have h1 : (l.mergeSort fun x y => decide (x ≤ y)).Pairwise (fun x y => decide (x ≤ y) = true) := List.pairwise_mergeSort (fun a b c h1 h2 => by simp at *; omega) (fun a b => by simp; omega) l
  have h2 : (l.mergeSort fun x y => decide (x ≤ y)).Nodup := (List.mergeSort_perm l _).nodup_iff.2 hn
  refine (h1.and h2).imp fun ⟨a, b⟩ => ?_
  simp at a
  omega
end Go.Proofs.YtnpgmekgmelamaaGreat
