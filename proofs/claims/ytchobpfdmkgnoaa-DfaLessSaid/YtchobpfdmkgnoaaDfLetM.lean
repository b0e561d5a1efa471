/-
  What is proved: plain facts on the letters of a glob: the bytes that stand for themselves, each once, in ascending order; what sorting and dropping repetitions make; the sample of the classes.
-/
import Derived.Test.YtchobpfdmkgnoaaDfSort
import Derived.Test.YtchobpfdmkgnoaaDfMath
namespace Go.Proofs.Ytchobpfdmkgnoaa
open Go.Sort

def wildC (c : UInt8) : Bool := c == 42 || c == 63
def allB : List UInt8 := (List.range 256).map UInt8.ofNat
/-- The letters of B, each once, in ascending order. -/
def letL (B : List UInt8) : List UInt8 := allB.filter fun c => B.contains c && !wildC c
theorem allB_mem (c : UInt8) : c ∈ allB := by
  unfold allB
  rw [List.mem_map]
  exact ⟨c.toNat, List.mem_range.2 c.toNat_lt, UInt8.ofNat_toNat⟩
theorem allB_asc : allB.Pairwise (fun a b => a.toNat < b.toNat) := by
  unfold allB
  rw [List.pairwise_map, List.pairwise_iff_getElem]
  intro i j hi hj hij
  simp only [List.length_range] at hi hj
  simp only [List.getElem_range, UInt8.toNat_ofNat']
  omega
theorem mem_letL {B : List UInt8} {c : UInt8} : c ∈ letL B ↔ c ∈ B ∧ wildC c = false := by
  unfold letL
  rw [List.mem_filter]
  simp [allB_mem]
theorem letL_asc (B : List UInt8) : (letL B).Pairwise (fun a b => a.toNat < b.toNat) := allB_asc.filter _
theorem asc_nodup {l : List UInt8} (h : l.Pairwise (fun a b => a.toNat < b.toNat)) : l.Nodup := h.imp (fun hab e => by subst e; exact absurd hab (Nat.lt_irrefl _))
theorem asc_eq {a b : List UInt8} (ha : a.Pairwise (fun x y => x.toNat < y.toNat)) (hb : b.Pairwise (fun x y => x.toNat < y.toNat)) (h : ∀ c, c ∈ a ↔ c ∈ b) : a = b := by
  have hp : a.Perm b := (List.perm_ext_iff_of_nodup (asc_nodup ha) (asc_nodup hb)).2 h
  exact hp.eq_of_pairwise (le := fun x y => x.toNat < y.toNat) (fun x y _ _ h1 h2 => absurd h1 (by omega)) ha hb

theorem compact_asc {d : Array UInt8} (hs : SortedIn ltB 0 d.size d) : ∀ m, m ≤ d.size → (Lib.compactUpTo d m).Pairwise (fun a b => a.toNat < b.toNat) ∧ ∀ x, x ∈ Lib.compactUpTo d m → ∃ j, j < m ∧ d[j]! = x
  | 0, _ => ⟨by simp [Lib.compactUpTo], fun x hx => by simp [Lib.compactUpTo] at hx⟩
  | m + 1, hm => by
    obtain ⟨h1, h2⟩ := compact_asc hs m (by omega)
    rw [Lib.compactUpTo_succ]
    refine ⟨?_, fun x hx => ?_⟩
    · cases hk : Lib.keeps d m with
      | false => simpa using h1
      | true =>
        rw [if_pos rfl, List.pairwise_append]
        refine ⟨h1, by simp, fun x hx y hy => ?_⟩
        have hy' : y = d[m]! := by simpa using hy
        subst hy'
        obtain ⟨j, hj, rfl⟩ := h2 x hx
        have hle : ∀ i, j ≤ i → i < d.size → (d[j]!).toNat ≤ (d[i]!).toNat := fun i hji hi => by
          by_cases e : j = i
          · subst e; exact Nat.le_refl _
          · have := hs j i (Nat.zero_le _) (by omega) hi
            simp only [ltB, decide_eq_false_iff_not] at this; omega
        have hne : d[m]! ≠ d[m - 1]! := by
          unfold Lib.keeps at hk
          rcases of_decide_eq_true hk with e | e
          · omega
          · exact e
        have h3 := hle (m - 1) (by omega) (by omega)
        have h4 := hs (m - 1) m (Nat.zero_le _) (by omega) (by omega)
        simp only [ltB, decide_eq_false_iff_not] at h4
        have h5 : (d[m]!).toNat ≠ (d[m - 1]!).toNat := fun e => hne (UInt8.toNat_inj.1 e)
        show (d[j]!).toNat < (d[m]!).toNat
        omega
    · rcases List.mem_append.1 hx with h | h
      · obtain ⟨j, hj, e⟩ := h2 x h; exact ⟨j, by omega, e⟩
      · cases hk : Lib.keeps d m with
        | false => rw [hk] at h; simp at h
        | true =>
          rw [hk] at h
          have : x = d[m]! := by simpa using h
          exact ⟨m, by omega, this.symm⟩
theorem compact_has (d : Array UInt8) : ∀ m j, j < m → d[j]! ∈ Lib.compactUpTo d m
  | 0, j, h => absurd h (Nat.not_lt_zero j)
  | m + 1, j, h => by
    rw [Lib.compactUpTo_succ]
    by_cases e : j = m
    · subst e
      cases hk : Lib.keeps d j with
      | true => simp
      | false =>
        have h0 : ¬ (j = 0 ∨ d[j]! ≠ d[j - 1]!) := of_decide_eq_false hk
        have h1 : d[j]! = d[j - 1]! := by
          by_cases e : d[j]! = d[j - 1]!
          · exact e
          · exact absurd (.inr e) h0
        have h2 : j ≠ 0 := fun e => h0 (.inl e)
        rw [h1]
        exact List.mem_append_left _ (compact_has d j (j - 1) (by omega))
    · exact List.mem_append_left _ (compact_has d m j (by omega))

theorem arr_get (d : Array UInt8) {j : Nat} (h : j < d.size) : d[j]! = d.toList[j]'(by simpa using h) := by rw [getElem!_pos d j h]; simp
theorem compact_let {B : List UInt8} {d : Array UInt8} (hp : d.toList.Perm (B.filter fun c => !wildC c)) (hs : SortedIn ltB 0 d.size d) : Lib.compactUpTo d d.size = letL B := by
  obtain ⟨h1, h2⟩ := compact_asc hs d.size (Nat.le_refl _)
  refine asc_eq h1 (letL_asc B) (fun c => ?_)
  rw [mem_letL]
  have hm : c ∈ d.toList ↔ c ∈ B ∧ wildC c = false := by rw [hp.mem_iff, List.mem_filter]; simp
  rw [← hm]
  constructor
  · intro h
    obtain ⟨j, hj, rfl⟩ := h2 c h
    rw [arr_get d hj]; exact List.getElem_mem _
  · intro h
    obtain ⟨j, hj, e⟩ := List.mem_iff_getElem.1 h
    have hj' : j < d.size := by simpa using hj
    rw [← e, ← arr_get d hj']
    exact compact_has d d.size j hj'

/-- The sample: the * for class 0, then the letters. -/
def sampL (B : List UInt8) : List UInt8 := 42 :: letL B
theorem samp_fits (B : List UInt8) : Fits B (sampL B) where
  head := rfl
  has c hc h1 h2 := List.mem_cons_of_mem _ (mem_letL.2 ⟨hc, by simp [wildC, h1, h2]⟩)
  only c hc := by
    rcases List.mem_cons.1 hc with h | h
    · exact .inl h
    · obtain ⟨h1, h2⟩ := mem_letL.1 h
      refine .inr ⟨h1, fun e => ?_⟩
      subst e; exact absurd h2 (by decide)
theorem samp_nodup (B : List UInt8) : (sampL B).Nodup := by
  unfold sampL
  rw [List.nodup_cons]
  refine ⟨fun h => ?_, asc_nodup (letL_asc B)⟩
  have := (mem_letL.1 h).2
  exact absurd this (by decide)
theorem nodup_len : ∀ (a b : List UInt8), a.Nodup → (∀ c, c ∈ a → c ∈ b) → a.length ≤ b.length
  | [], b, _, _ => Nat.zero_le _
  | x :: a, b, hn, h => by
    rw [List.nodup_cons] at hn
    have hx := h x (by simp)
    have h1 := nodup_len a (b.erase x) hn.2 (fun c hc => (List.mem_erase_of_ne (fun e : c = x => hn.1 (by rw [← e]; exact hc))).2 (h c (by simp [hc])))
    rw [List.length_erase_of_mem hx] at h1
    have : 0 < b.length := List.length_pos_of_mem hx
    simp only [List.length_cons]; omega
theorem letL_len (B : List UInt8) : (letL B).length ≤ B.length := nodup_len _ _ (asc_nodup (letL_asc B)) (fun _ hc => (mem_letL.1 hc).1)
theorem foldC_idem (c : UInt8) : foldC (foldC c) = foldC c := by
  have h : ∀ i : Fin 256, foldC (foldC (UInt8.ofNat i.1)) = foldC (UInt8.ofNat i.1) := by decide +kernel
  have := h ⟨c.toNat, c.toNat_lt⟩
  simpa using this
theorem cntC_idem (f : Bool) (c : UInt8) : cntC f (cntC f c) = cntC f c := by cases f <;> simp [cntC, foldC_idem]
theorem samp_cnt (f : Bool) (P : List UInt8) : ∀ c, c ∈ sampL (cntL f P) → cntC f c = c := by
  intro c hc
  rcases List.mem_cons.1 hc with rfl | h
  · cases f <;> rfl
  · obtain ⟨i, hi⟩ := List.mem_iff_getElem?.1 (mem_letL.1 h).1
    rw [cntL_at] at hi
    cases hp : P[i]? with
    | none => rw [hp] at hi; simp at hi
    | some d =>
      rw [hp] at hi
      have : cntC f d = c := by simpa using hi
      rw [← this, cntC_idem]
end Go.Proofs.Ytchobpfdmkgnoaa
