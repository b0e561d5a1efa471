/-
  What is proved: what slices.Sort's functions beside the insertion sort do to bytes in memory (in work: reverseRange). Nothing else that lay in memory is changed.
-/
import Derived.Test.YtchobpfdmkgnoaaDfSort
import Derived.Handy
namespace Go.Proofs.Ytchobpfdmkgnoaa
open Go.RowKit Go.Shelf Go.Sort

set_option maxRecDepth 100000 in
set_option maxHeartbeats 2000000 in
/-- slices.reverseRangeOrdered. -/
theorem reverse_any (blk off cap a b : Nat) (d : Array UInt8) (w : World) (hH : Holds encB w blk off d) (hab : a < b) (hb : b ≤ d.size) (hsz : d.size ≤ 1000000) :
    Calls Try.prog 76 #[.slice (some ⟨blk, off, none⟩) d.size cap, .int .i64 (a : Int), .int .i64 (b : Int)] w fun e w' => e = .returned (.tuple #[]) ∧ Holds encB w' blk off (reverseRange d a b) ∧ OnlyAt blk w.heap.size w w' := by
  obtain ⟨n, hn⟩ : ∃ n, d.size = n := ⟨_, rfl⟩
  have HH : Hid (Holds encB w blk off d) := hH
  have HN : Hid (d.size = n) := hn
  rw [hn] at hb hsz
  rw [hn]
  clear hH hn
  go_enter Try.func76, Try.ntmps76
  go_wp2
  go_loopg [6, 7] (b - a) (fun gk s6 s7 wr => ∃ (i j : Nat) (dk : Array UInt8), s6 = .int .i64 i ∧ s7 = .int .i64 j ∧ a ≤ i ∧ i ≤ b ∧ j < b ∧ j - i ≤ gk ∧ Hid (dk.size = n) ∧ Hid (Holds encB wr blk off dk) ∧ Hid (OnlyAt blk w.heap.size w wr) ∧ Hid (reverseLoop i j dk = reverseLoop a (b - 1) d))
  case atStart => exact ⟨a, b - 1, d, rfl, by go_num, Nat.le_refl _, by omega, by omega, by omega, HN, HH, Lib.hid (OnlyAt.refl _ _ _), Lib.hid rfl⟩
  case round =>
    obtain ⟨i, j, dk, rfl, rfl, hai, hib, hjb, hg, HS, HK, HB, HO⟩ := hrel
    clear HH
    by_cases hij : i < j
    · have z : (i : Int) < (j : Int) := by omega
      have hd : decide ((i : Int) < (j : Int)) = true := decide_eq_true z
      have ci := (HK.out i (by have := HS.out; omega)).1
      have cj := (HK.out j (by have := HS.out; omega)).1
      have fi := (HK.out i (by have := HS.out; omega)).2
      have fj := (HK.out j (by have := HS.out; omega)).2
      obtain ⟨xi, hxi⟩ : ∃ x, dk[i]! = x := ⟨_, rfl⟩
      obtain ⟨xj, hxj⟩ : ∃ x, dk[j]! = x := ⟨_, rfl⟩
      rw [hxi] at ci
      rw [hxj] at cj
      unfold encB at ci cj
      have XI := Lib.hid hxi
      have XJ := Lib.hid hxj
      clear hxi hxj
      have i0 : (0 : Int) ≤ (i : Int) := by omega
      have i1 : (i : Int) < (n : Int) := by omega
      have j0 : (0 : Int) ≤ (j : Int) := by omega
      have j1 : (j : Int) < (n : Int) := by omega
      obtain ⟨g', rfl⟩ : ∃ g', gk = g' + 1 := ⟨gk - 1, by omega⟩
      go_wp2_with fail
      go_region
      all_goals
        go_wp2
        go_roundg g'
        case measure => omega
        case rel =>
          refine ⟨i + 1, j - 1, swp dk i j, iv (by omega), by go_num, by omega, by omega, by omega, by omega, Lib.hid (by rw [size_swp]; exact HS.out), Lib.hid ?_, Lib.hid ?_, Lib.hid ?_⟩
          · have := swap_holds HK.out (i := i) (j := j) (by have := HS.out; omega) (by have := HS.out; omega) (by omega)
            rw [XI.out, XJ.out] at this
            exact this
          · first
              | exact ((HB.out.set (off + i) _).set (off + j) _).drew
              | exact (HB.out.set (off + i) _).set (off + j) _
              | exact (((HB.out.drew).set (off + i) _).set (off + j) _)
          · rw [← HO.out, reverseLoop.eq_def i j dk, if_pos hij]
    · have z : ¬ ((i : Int) < (j : Int)) := by omega
      have hd : decide ((i : Int) < (j : Int)) = false := decide_eq_false z
      have HE : Hid (reverseRange d a b = dk) := Lib.hid (by
        unfold reverseRange
        rw [← HO.out]
        rw [reverseLoop.eq_def i j dk, if_neg hij])
      go_wp2
      go_end0
      exact ⟨rfl, by rw [HE.out]; exact HK.out, HB.out⟩
end Go.Proofs.Ytchobpfdmkgnoaa
