/-
  What is proved: slices.Sorted(maps.Keys(m)) at the two maps from numbers: the numbers, rising.
-/
import Derived.Test.YtnpgmekgmelamaaGreatIxMap
import Derived.Test.YtnpgmekgmelamaaGreatShelfI
namespace Go.Proofs.YtnpgmekgmelamaaGreat
open Go.RowKit Go.Shelf Go.Maps Go.Sort

theorem sorts_i (m : Nat) : AnyZI.SortsIn Tryz.prog Tryz.sortedI_ren Fence.wide m :=
  ⟨fun blk off cap ss W hH hblk hsz => callsIn_wide.2 (AnyM.slices_Sort_int Tryz.sortI blk off cap ss W hH hblk hsz),
   fun p cap W => callsIn_wide.2 (AnyM.slices_Sort_int_none Tryz.sortI p cap W)⟩

theorem keysB_any (mb : Option Nat) (W : World) : Calls Tryz.prog 72 #[.map mb] W fun e w' => e = .returned (.func (.func 101) #[] #[.pointer (some ⟨W.heap.size, 0, none⟩)]) ∧ w' = W.alloc (.cells #[.map mb] 111) :=
  (callsIn_wide (n := 5)).1 (AnyZI.keys_in Tryz.keysB Fence.wide 5 trivial rfl mb W)
theorem keysG_any (mb : Option Nat) (W : World) : Calls Tryz.prog 74 #[.map mb] W fun e w' => e = .returned (.func (.func 102) #[] #[.pointer (some ⟨W.heap.size, 0, none⟩)]) ∧ w' = W.alloc (.cells #[.map mb] 105) :=
  (callsIn_wide (n := 5)).1 (AnyZI.keys_in Tryz.keysG Fence.wide 5 trivial rfl mb W)

theorem intOf_int (i : Int) : Go.intOf (.int .i64 i) = i := rfl
/-- The keys of a map from numbers: each once, those that are there. -/
theorem keys_are {W : World} {b n : Nat} {D : DataW Value} (h : W.ownsMap Tryz.prog 3 heldR b n D) : (intKeys D).Nodup ∧ ∀ i, i ∈ intKeys D ↔ (Lit.int .i64 i).wf = true ∧ Maps.has D (.int .i64 i) = true := by
  have hwf := intKeys_wf h Tryz.underlying3
  obtain ⟨es, rfl, hp, hk⟩ := h.entries lawI
  have hints : ∀ p ∈ es, ∃ x, p.1 = .int .i64 x := fun p hp' => by
    obtain ⟨es', clock, hb, F, hs, hD⟩ := h
    have : p.1 ∈ (es.map (·.1)) := List.mem_map.2 ⟨p, hp', rfl⟩
    have hK := fit_keys F
    have hes : es = (es'.toList.map (WideElems.rg Tryz.prog 3 heldR)).foldr DataW.insert [] := DataW.map.inj hD
    rw [hes, mem_sorted] at hp'
    obtain ⟨i, e, _⟩ := keysI (hK p hp')
    exact ⟨i, e⟩
  constructor
  · show (es.map fun p => Go.intOf p.1).Nodup
    rw [List.nodup_iff_pairwise_ne, List.pairwise_map]
    refine hp.imp_of_mem fun {a b} ha hb hne e => ?_
    obtain ⟨i, hi⟩ := hints a ha
    obtain ⟨j, hj⟩ := hints b hb
    rw [hi, hj] at hne e
    exact hne (by rw [show i = j from e])
  · intro i
    show i ∈ (es.map fun p => Go.intOf p.1) ↔ _
    constructor
    · intro hm
      refine ⟨hwf i hm, ?_⟩
      obtain ⟨p, hp', e⟩ := List.mem_map.1 hm
      obtain ⟨j, hj⟩ := hints p hp'
      rw [hj] at e
      rw [Maps.has_eq, List.any_eq_true]
      exact ⟨p, hp', by rw [hj, show j = i from e]; simp [Lit.sameKey]⟩
    · rintro ⟨_, hh⟩
      rw [Maps.has_eq, List.any_eq_true] at hh
      obtain ⟨p, hp', hsame⟩ := hh
      obtain ⟨j, hj⟩ := hints p hp'
      refine List.mem_map.2 ⟨p, hp', ?_⟩
      rw [hj]
      by_cases e : j = i
      · rw [e]; rfl
      · rw [hj, Maps.sameKey_ne (fun e2 => e (Lit.int.inj e2).2)] at hsame
        cases hsame

/-- What slices.Sorted returns on the keys of a map that F tells. -/
def SortedPost (W : World) (F : Lit → Option Value) (e : Ending) (w' : World) : Prop :=
  ∃ (v : Value) (ids : List Int), e = .returned v ∧ ids.Pairwise (· < ·) ∧ (∀ i : Int, i ∈ ids ↔ (Lit.int .i64 i).wf = true ∧ (F (.int .i64 i)).isSome = true) ∧ w'.ownsRow W.heap.size 3 1 v ids.length (ids.map (Value.int .i64)) ∧ Below W.heap.size W w'

set_option maxHeartbeats 1000000 in
theorem sortedB_any {W : World} {b c : Nat} {F : Lit → Option Value} (h : MapL 3 W b c F) (hc : c ≤ 10000000) :
    Calls Tryz.prog 71 #[.func (.func 101) #[] #[.pointer (some ⟨W.heap.size, 0, none⟩)]] (W.alloc (.cells #[.map (some b)] 111)) (SortedPost (W.alloc (.cells #[.map (some b)] 111)) F) := by
  obtain ⟨D, hown, hs, hF⟩ := h
  have hbl := hown.lt
  have hown' := hown.alloc (.cells #[.map (some b)] 111)
  have hseq : SeqGives Fence.wide 2 Tryz.prog 101 #[.pointer (some ⟨W.heap.size, 0, none⟩)] encZ (fun ss => ss.Perm (intKeys D)) (Maps.size D) (W.alloc (.cells #[.map (some b)] 111)) :=
    AnyZI.keys_gives (ρ := Tryz.keysB_ren) { Tryz.keysB with } Fence.wide _ trivial rfl (by omega) W.heap.size b c D _ (by simp) (by simp) hown'
  have cS := AnyZI.sorted_in Tryz.sortedI Fence.wide 5 trivial trivial trivial trivial rfl (by omega) (sorts_i _) (enters_of Tryz.func100 (by kernel_rfl) rfl) 101 #[.pointer (some ⟨W.heap.size, 0, none⟩)] trivial (enters_of Tryz.func101 (by kernel_rfl) rfl) _ _ (by unfold maxLen; omega) (by omega) _ hseq
  refine ((callsIn_wide (n := 5)).1 cS).mono ?_
  rintro e w' ⟨v, ss, rfl, hp, hrow, _, hb⟩
  obtain ⟨hnd, hmem⟩ := keys_are hown
  have hids := rising_of_sort (l := ss) (hp.nodup_iff.2 hnd)
  have hpm := List.mergeSort_perm ss (fun x y => decide (x ≤ y))
  refine ⟨v, ss.mergeSort (fun x y => decide (x ≤ y)), rfl, hids, fun i => ?_, by rw [hpm.length_eq]; exact hrow, hb⟩
  rw [hpm.mem_iff, hp.mem_iff, hmem]
  constructor
  · rintro ⟨h1, h2⟩
    rw [(hF _ (key_ok (keyI h1))).1] at h2
    exact ⟨h1, h2⟩
  · rintro ⟨h1, h2⟩
    rw [← (hF _ (key_ok (keyI h1))).1] at h2
    exact ⟨h1, h2⟩
set_option maxHeartbeats 1000000 in
theorem sortedG_any {W : World} {b c : Nat} {F : Lit → Option Value} (h : MapL 3 W b c F) (hc : c ≤ 10000000) :
    Calls Tryz.prog 71 #[.func (.func 102) #[] #[.pointer (some ⟨W.heap.size, 0, none⟩)]] (W.alloc (.cells #[.map (some b)] 105)) (SortedPost (W.alloc (.cells #[.map (some b)] 105)) F) := by
  obtain ⟨D, hown, hs, hF⟩ := h
  have hbl := hown.lt
  have hown' := hown.alloc (.cells #[.map (some b)] 105)
  have hseq : SeqGives Fence.wide 2 Tryz.prog 102 #[.pointer (some ⟨W.heap.size, 0, none⟩)] encZ (fun ss => ss.Perm (intKeys D)) (Maps.size D) (W.alloc (.cells #[.map (some b)] 105)) :=
    AnyZI.keys_gives (ρ := Tryz.keysG_ren) { Tryz.keysG with } Fence.wide _ trivial rfl (by omega) W.heap.size b c D _ (by simp) (by simp) hown'
  have cS := AnyZI.sorted_in Tryz.sortedI Fence.wide 5 trivial trivial trivial trivial rfl (by omega) (sorts_i _) (enters_of Tryz.func100 (by kernel_rfl) rfl) 102 #[.pointer (some ⟨W.heap.size, 0, none⟩)] trivial (enters_of Tryz.func102 (by kernel_rfl) rfl) _ _ (by unfold maxLen; omega) (by omega) _ hseq
  refine ((callsIn_wide (n := 5)).1 cS).mono ?_
  rintro e w' ⟨v, ss, rfl, hp, hrow, _, hb⟩
  obtain ⟨hnd, hmem⟩ := keys_are hown
  have hids := rising_of_sort (l := ss) (hp.nodup_iff.2 hnd)
  have hpm := List.mergeSort_perm ss (fun x y => decide (x ≤ y))
  refine ⟨v, ss.mergeSort (fun x y => decide (x ≤ y)), rfl, hids, fun i => ?_, by rw [hpm.length_eq]; exact hrow, hb⟩
  rw [hpm.mem_iff, hp.mem_iff, hmem]
  constructor
  · rintro ⟨h1, h2⟩
    rw [(hF _ (key_ok (keyI h1))).1] at h2
    exact ⟨h1, h2⟩
  · rintro ⟨h1, h2⟩
    rw [← (hF _ (key_ok (keyI h1))).1] at h2
    exact ⟨h1, h2⟩
end Go.Proofs.YtnpgmekgmelamaaGreat
