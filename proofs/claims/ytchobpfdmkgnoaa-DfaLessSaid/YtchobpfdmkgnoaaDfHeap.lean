/-
  What is proved: what slices.Sort's heapSort does to bytes in memory. Nothing else that lay in memory is changed.
-/
import Derived.Test.YtchobpfdmkgnoaaDfSift
namespace Go.Proofs.Ytchobpfdmkgnoaa
open Go.RowKit Go.Shelf Go.Sort

theorem swap_holds2 {W : World} {blk off : Nat} {d : Array UInt8} (h : Holds encB W blk off d) {i j : Nat} (hi : i < d.size) (hj : j < d.size) :
    Holds encB ((W.setCell ⟨blk, off + i, none⟩ (encB d[j]!)).setCell ⟨blk, off + j, none⟩ (encB d[i]!)) blk off (swp d i j) := by
  by_cases hij : i = j
  · subst hij
    intro k hk
    rw [size_swp] at hk
    obtain ⟨ck, fk⟩ := h k hk
    refine ⟨?_, by rw [World.frozen?_setCell, World.frozen?_setCell]; exact fk⟩
    by_cases e : k = i
    · subst e
      have hc1 : (W.setCell ⟨blk, off + k, none⟩ (encB d[k]!)).cell? ⟨blk, off + k, none⟩ = some (encB d[k]!) := World.cell?_setCell_same _ _ _ ck
      rw [World.cell?_setCell_same _ _ _ hc1, swp_right d k k hk]
    · have ne : (⟨blk, off + i, none⟩ : Addr) ≠ ⟨blk, off + k, none⟩ := fun e2 => e (by injection e2 with _ e2; omega)
      rw [World.cell?_setCell_other _ _ _ _ ne, World.cell?_setCell_other _ _ _ _ ne, ck, swp_other d i i k e e]
  · exact swap_holds h hi hj hij
theorem size_sift (hi first : Nat) : ∀ (g root : Nat) (d : Array UInt8), hi - root ≤ g → (siftDown ltB hi first root d).size = d.size
  | 0, root, d, h => by rw [siftDown.eq_def, dif_pos (by omega)]
  | g + 1, root, d, h => by
    rw [siftDown.eq_def]
    split
    · rfl
    · split
      · split
        · rfl
        · split
          · rw [size_sift hi first g _ _ (by omega), size_swp]
          · rfl
      · split
        · rfl
        · rw [size_sift hi first g _ _ (by omega), size_swp]

set_option maxRecDepth 100000 in
set_option maxHeartbeats 2000000 in
/-- slices.heapSortOrdered. -/
theorem heap_any (blk off cap a b : Nat) (d : Array UInt8) (w : World) (hH : Holds encB w blk off d) (hab : a < b) (hb : b ≤ d.size) (hsz : d.size ≤ 1000000) :
    Calls Try.prog 73 #[.slice (some ⟨blk, off, none⟩) d.size cap, .int .i64 (a : Int), .int .i64 (b : Int)] w fun e w' => e = .returned (.tuple #[]) ∧ Holds encB w' blk off (heapSort ltB d a b) ∧ OnlyAt blk w.heap.size w w' := by
  obtain ⟨n, hn⟩ : ∃ n, d.size = n := ⟨_, rfl⟩
  have HH : Hid (Holds encB w blk off d) := hH
  have HN : Hid (d.size = n) := hn
  rw [hn] at hb hsz
  rw [hn]
  clear hH hn
  obtain ⟨hi, hhi⟩ : ∃ hi, b - a = hi := ⟨_, rfl⟩
  have e1 : (b : Int) - (a : Int) = (hi : Int) := by omega
  have e2 : IntKind.i64.wrap (hi : Int) = (hi : Int) := by rw [IntKind.wrap_i64]; omega
  have C : Hid (∀ (W : World) (dk : Array UInt8) (lo h : Nat), Holds encB W blk off dk → dk.size = n → a + h ≤ n → lo ≤ 1000000 → Calls Try.prog 85 #[.slice (some ⟨blk, off, none⟩) n cap, .int .i64 (lo : Int), .int .i64 (h : Int), .int .i64 (a : Int)] W fun e w' => e = .returned (.tuple #[]) ∧ Holds encB w' blk off (siftDown ltB h a lo dk) ∧ OnlyAt blk W.heap.size W w') := Lib.hid (fun W dk lo h h1 h2 h3 h4 => by
    have := sift_any blk off cap lo h a dk W h1 (by omega) h4 (by omega)
    rwa [h2] at this)
  go_enter Try.func73, Try.ntmps73
  go_wp2
  go_loopg [9] ((hi - 1) / 2 + 1) (fun gk s9 wr => ∃ (z : Int) (dk : Array UInt8), s9 = .int .i64 z ∧ z = (gk : Int) - 1 ∧ gk ≤ (hi - 1) / 2 + 1 ∧ Hid (dk.size = n) ∧ Hid (Holds encB wr blk off dk) ∧ Hid (OnlyAt blk w.heap.size w wr) ∧ Hid (heapBuild ltB hi a gk dk = heapBuild ltB hi a ((hi - 1) / 2 + 1) d))
  case atStart => exact ⟨_, d, rfl, by omega, Nat.le_refl _, HN, HH, Lib.hid (OnlyAt.refl _ _ _), Lib.hid rfl⟩
  case round =>
    obtain ⟨z, dk, rfl, hz, hgk, HS, HK, HB, HO⟩ := hrel
    clear HH
    cases gk with
    | succ g' =>
      have hz' : z = (g' : Int) := by omega
      subst hz'
      have y0 : (0 : Int) ≤ (g' : Int) := by omega
      have C1 : Hid (Calls Try.prog 85 #[.slice (some ⟨blk, off, none⟩) n cap, .int .i64 (g' : Int), .int .i64 (hi : Int), .int .i64 (a : Int)] wr fun e w' => e = .returned (.tuple #[]) ∧ Holds encB w' blk off (siftDown ltB hi a g' dk) ∧ OnlyAt blk wr.heap.size wr w') := Lib.hid (C.out wr dk g' hi HK.out HS.out (by omega) (by omega))
      clear hz
      go_wp2_with fail
      refine C1.out.mono ?_
      rintro e w2 ⟨rfl, hK2, hB2⟩
      have HB2 : Hid (OnlyAt blk w.heap.size w w2) := Lib.hid (HB.out.trans (hB2.mono HB.out.size))
      have HK2 : Hid (Holds encB w2 blk off (siftDown ltB hi a g' dk)) := Lib.hid hK2
      have HS2 : Hid ((siftDown ltB hi a g' dk).size = n) := Lib.hid (by rw [size_sift hi a (hi - g') g' dk (Nat.le_refl _)]; exact HS.out)
      clear hK2 hB2
      go_wp2
      go_roundg g'
      case measure => omega
      case rel => exact ⟨(g' : Int) - 1, _, by go_num, rfl, by omega, HS2, HK2, HB2, HO⟩
    | zero =>
      have hz' : z = -1 := by omega
      subst hz'
      clear hz
      go_wp2_with fail
      have HO' : Hid (heapPop ltB a hi dk = heapSort ltB d a b) := Lib.hid (by
        have := HO.out
        unfold heapBuild at this
        rw [this]
        unfold heapSort
        rw [hhi]
        rfl)
      go_loopg [10] hi (fun gk s10 wr2 => ∃ (z : Int) (dj : Array UInt8), s10 = .int .i64 z ∧ z = (gk : Int) - 1 ∧ gk ≤ hi ∧ Hid (dj.size = n) ∧ Hid (Holds encB wr2 blk off dj) ∧ Hid (OnlyAt blk w.heap.size w wr2) ∧ Hid (heapPop ltB a gk dj = heapSort ltB d a b))
      case atStart => exact ⟨_, dk, rfl, by omega, Nat.le_refl _, HS, HK, HB, HO'⟩
      case round =>
        clear HS HK HB HO HO'
        obtain ⟨z, dj, rfl, hz, hgk, HS, HK, HB, HO⟩ := hrel
        cases gk with
        | succ g' =>
          have hz' : z = (g' : Int) := by omega
          subst hz'
          obtain ⟨p, hp⟩ : ∃ p, a + g' = p := ⟨_, rfl⟩
          have y0 : (0 : Int) ≤ (g' : Int) := by omega
          have e3 : (a : Int) + (g' : Int) = (p : Int) := by omega
          have e4 : IntKind.i64.wrap (p : Int) = (p : Int) := by rw [IntKind.wrap_i64]; omega
          have p0 : (0 : Int) ≤ (p : Int) := by omega
          have p1 : (p : Int) < (n : Int) := by omega
          have a0 : (0 : Int) ≤ (a : Int) := by omega
          have a1 : (a : Int) < (n : Int) := by omega
          have hpn : p < n := by omega
          have han : a < n := by omega
          have ca := (HK.out a (by have := HS.out; omega)).1
          have cp := (HK.out p (by have := HS.out; omega)).1
          have fa := (HK.out a (by have := HS.out; omega)).2
          have fp := (HK.out p (by have := HS.out; omega)).2
          obtain ⟨xa, hxa⟩ : ∃ x, dj[a]! = x := ⟨_, rfl⟩
          obtain ⟨xp, hxp⟩ : ∃ x, dj[p]! = x := ⟨_, rfl⟩
          rw [hxa] at ca
          rw [hxp] at cp
          unfold encB at ca cp
          have cs : (wr.setCell ⟨blk, off + a, none⟩ (.int .u8 (xp.toNat : Int))).cell? ⟨blk, off + p, none⟩ = some (.int .u8 (xp.toNat : Int)) := by
            by_cases e : a = p
            · rw [e] at ca ⊢
              exact World.cell?_setCell_same _ _ _ ca
            · rw [World.cell?_setCell_other _ _ _ _ (fun e2 => e (by injection e2 with _ e2; omega))]
              exact cp
          have HW : Hid (Holds encB ((wr.setCell ⟨blk, off + a, none⟩ (.int .u8 (xp.toNat : Int))).setCell ⟨blk, off + p, none⟩ (.int .u8 (xa.toNat : Int))) blk off (swp dj a p)) := Lib.hid (by
            have := swap_holds2 HK.out (i := a) (j := p) (by have := HS.out; omega) (by have := HS.out; omega)
            rw [hxa, hxp] at this
            exact this)
          have HWd : Hid (Holds encB (((wr.setCell ⟨blk, off + a, none⟩ (.int .u8 (xp.toNat : Int))).setCell ⟨blk, off + p, none⟩ (.int .u8 (xa.toNat : Int))).drew) blk off (swp dj a p)) := Lib.hid (holds_drewN HW.out 1)
          have HS2 : Hid ((swp dj a p).size = n) := Lib.hid (by rw [size_swp]; exact HS.out)
          have HS3 : Hid ((siftDown ltB g' a 0 (swp dj a p)).size = n) := Lib.hid (by rw [size_sift g' a (g' - 0) 0 _ (Nat.le_refl _)]; exact HS2.out)
          have HO2 : Hid (heapPop ltB a g' (siftDown ltB g' a 0 (swp dj a p)) = heapSort ltB d a b) := Lib.hid (by rw [← HO.out, ← hp]; rfl)
          clear hz hxa hxp hp
          go_wp2_with fail
          go_region
          all_goals
            go_wp2_with fail
            refine (C.out _ (swp dj a p) 0 g' HWd.out HS2.out (by omega) (by omega)).mono ?_
            rintro e w2 ⟨rfl, hK2, hB2⟩
            have HB2 : Hid (OnlyAt blk w.heap.size w w2) := Lib.hid (by
              first
                | exact (((HB.out.set _ _).set _ _).drew).trans (hB2.mono (((HB.out.set _ _).set _ _).drew).size)
                | exact ((HB.out.set _ _).set _ _).trans (hB2.mono ((HB.out.set _ _).set _ _).size))
            have HK2 := Lib.hid hK2
            clear hK2 hB2
            go_wp2
            go_roundg g'
            case measure => omega
            case rel => exact ⟨(g' : Int) - 1, _, by go_num, rfl, by omega, HS3, HK2, HB2, HO2⟩
        | zero =>
          have hz' : z = -1 := by omega
          subst hz'
          clear hz
          go_wp2_with fail
          go_end0
          exact ⟨rfl, HO.out ▸ HK.out, HB.out⟩
end Go.Proofs.Ytchobpfdmkgnoaa
