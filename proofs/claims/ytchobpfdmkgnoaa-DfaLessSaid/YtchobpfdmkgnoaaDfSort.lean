/-
  What is proved: what slices.Sort's functions do to bytes in memory: cmp.Less, the insertion sort, and slices.Sort at twelve bytes or fewer. Nothing else that lay in memory is changed.
-/
import Derived.Test.YtchobpfdmkgnoaaNfClose
import Derived.Sort.WalkA
import Derived.Lib.SlicesCompact
import Derived.BigRegion
namespace Go.Proofs.Ytchobpfdmkgnoaa
open Go.RowKit Go.Shelf Go.Sort

def encB (c : UInt8) : Value := .int .u8 (c.toNat : Int)
def ltB (x y : UInt8) : Bool := decide (x.toNat < y.toNat)
theorem swo_ltB : SWO ltB where
  irrefl x := by simp [ltB]
  trans x y z h1 h2 := by simp only [ltB, decide_eq_true_eq] at *; omega
  ntrans x y z h1 h2 := by simp only [ltB, decide_eq_false_iff_not] at *; omega

theorem isNaN_any (x : Int) (w : World) : Calls Try.prog 90 #[.int .u8 x] w fun e w' => e = .returned (.bool false) ∧ w' = w := by
  go_enter Try.func90, Try.ntmps90
  go_wp2
  go_ret
  exact ⟨by simp, rfl⟩
theorem less_any (x y : UInt8) (w : World) : Calls Try.prog 78 #[.int .u8 (x.toNat : Int), .int .u8 (y.toNat : Int)] w fun e w' => e = .returned (.bool (ltB x y)) ∧ w' = w := by
  have C := Lib.hid (fun x => isNaN_any x w)
  go_enter Try.func78, Try.ntmps78
  go_wp2_with (go_at_call 90; refine (C.out _).mono ?_; rintro e w' ⟨rfl, rfl⟩)
  go_ret
  exact ⟨rfl, rfl⟩

/-- Two bytes exchanged. -/
theorem swap_holds {W : World} {blk off : Nat} {d : Array UInt8} (h : Holds encB W blk off d) {i j : Nat} (hi : i < d.size) (hj : j < d.size) (hij : i ≠ j) :
    Holds encB ((W.setCell ⟨blk, off + i, none⟩ (encB d[j]!)).setCell ⟨blk, off + j, none⟩ (encB d[i]!)) blk off (swp d i j) := by
  intro k hk
  rw [size_swp] at hk
  obtain ⟨ck, fk⟩ := h k hk
  refine ⟨?_, by rw [World.frozen?_setCell, World.frozen?_setCell]; exact fk⟩
  have ne : ∀ a b : Nat, a ≠ b → (⟨blk, off + a, none⟩ : Addr) ≠ ⟨blk, off + b, none⟩ := fun a b hab e => hab (by injection e with _ e; omega)
  by_cases e1 : k = j
  · subst e1
    have hc1 : (W.setCell ⟨blk, off + i, none⟩ (encB d[k]!)).cell? ⟨blk, off + k, none⟩ = some (encB d[k]!) := by
      rw [World.cell?_setCell_other _ _ _ _ (ne i k hij)]; exact ck
    rw [World.cell?_setCell_same _ _ _ hc1, swp_right d i k hk]
  · rw [World.cell?_setCell_other _ _ _ _ (ne j k (Ne.symm e1))]
    by_cases e2 : k = i
    · subst e2
      rw [World.cell?_setCell_same _ _ _ ck, swp_left d k j hk hij]
    · rw [World.cell?_setCell_other _ _ _ _ (ne i k (Ne.symm e2)), ck, swp_other d i j k e2 e1]
theorem holds_drewN {W : World} {blk off : Nat} {d : Array UInt8} (h : Holds encB W blk off d) (q : Nat) : Holds encB (W.drewN q) blk off d := h
theorem only_drewN {s B : Nat} {a w : World} (h : OnlyAt s B a w) (q : Nat) : OnlyAt s B a (w.drewN q) := ⟨h.os, h.tape, h.output, h.size, h.block⟩
theorem only_swap {s B : Nat} {a w : World} (h : OnlyAt s B a w) (q i j : Nat) (u v : Value) : OnlyAt s B a (((w.drewN q).setCell ⟨s, i, none⟩ u).setCell ⟨s, j, none⟩ v) := ((only_drewN h q).set i u).set j v

set_option maxRecDepth 100000 in
set_option maxHeartbeats 4000000 in
/-- slices.insertionSortOrdered. -/
theorem insertion_any (blk off cap a b : Nat) (d : Array UInt8) (w : World) (hH : Holds encB w blk off d) (hab : a ≤ b) (hb : b ≤ d.size) (hsz : d.size ≤ 1000000) :
    Calls Try.prog 72 #[.slice (some ⟨blk, off, none⟩) d.size cap, .int .i64 (a : Int), .int .i64 (b : Int)] w fun e w' => e = .returned (.tuple #[]) ∧ Holds encB w' blk off (insertionSort ltB d a b) ∧ OnlyAt blk w.heap.size w w' := by
  have C := Lib.hid less_any
  obtain ⟨n, hn⟩ : ∃ n, d.size = n := ⟨_, rfl⟩
  have HH : Hid (Holds encB w blk off d) := hH
  have HN : Hid (d.size = n) := hn
  rw [hn] at hb hsz
  rw [hn]
  clear hH hn
  go_enter Try.func72, Try.ntmps72
  go_wp2
  go_loopg [6, 7] (b - a) (fun g1 s6 s7 wr => ∃ (i : Nat) (dk : Array UInt8), s6 = .int .i64 i ∧ a < i ∧ i ≤ b + 1 ∧ b + 1 - i ≤ g1 + 1 ∧ Hid (dk.size = n) ∧ Hid (Holds encB wr blk off dk) ∧ Hid (OnlyAt blk w.heap.size w wr) ∧ Hid (insOuter ltB a b i dk = insOuter ltB a b (a + 1) d))
  case atStart => exact ⟨a + 1, d, by go_num, by omega, by omega, by omega, HN, HH, Lib.hid (OnlyAt.refl _ _ _), Lib.hid rfl⟩
  case round =>
    obtain ⟨i, dk, rfl, hai, hib, hg1, HS, HK, HB, HO⟩ := hrel
    clear HH
    by_cases hlt : i < b
    · have hltz : (i : Int) < (b : Int) := by omega
      go_wp2
      go_loopg [7] i (fun g2 s7 wr2 => ∃ (j : Nat) (dj : Array UInt8), s7 = .int .i64 j ∧ a ≤ j ∧ j ≤ i ∧ j ≤ g2 ∧ Hid (dj.size = n) ∧ Hid (Holds encB wr2 blk off dj) ∧ Hid (OnlyAt blk w.heap.size w wr2) ∧ Hid (insInner ltB a j dj = insInner ltB a i dk))
      case atStart => exact ⟨i, dk, rfl, by omega, Nat.le_refl _, Nat.le_refl _, HS, HK, HB, Lib.hid rfl⟩
      case round =>
        obtain ⟨j, dj, rfl, haj, hji, hg2, HSj, HKj, HBj, HI⟩ := hrel
        have OUT : Hid ((j ≤ a ∨ ltB dj[j]! dj[j - 1]! = false) → insOuter ltB a b (i + 1) dj = insOuter ltB a b (a + 1) d) := Lib.hid (fun hs => by
          rw [← HO.out, insOuter_go _ _ _ _ _ hlt, ← HI.out, insInner_stop _ _ _ _ hs])
        clear HK HB HO HS
        by_cases hja : a < j
        · obtain ⟨jp, rfl⟩ : ∃ jp, j = jp + 1 := ⟨j - 1, by omega⟩
          simp only [Nat.add_sub_cancel] at OUT
          have cj := (HKj.out (jp + 1) (by have := HSj.out; omega)).1
          have cp := (HKj.out jp (by have := HSj.out; omega)).1
          have fj := (HKj.out (jp + 1) (by have := HSj.out; omega)).2
          have fp := (HKj.out jp (by have := HSj.out; omega)).2
          obtain ⟨xj, hxj⟩ : ∃ x, dj[jp + 1]! = x := ⟨_, rfl⟩
          obtain ⟨xp, hxp⟩ : ∃ x, dj[jp]! = x := ⟨_, rfl⟩
          rw [hxj] at cj OUT
          rw [hxp] at cp OUT
          unfold encB at cj cp
          have XJ := Lib.hid hxj
          have XP := Lib.hid hxp
          clear hxj hxp
          have hwp : IntKind.i64.wrap (jp : Int) = (jp : Int) := by rw [IntKind.wrap_i64]; omega
          have jz : (jp : Int) + 1 < (n : Int) := by omega
          have jz1 : (jp : Int) < (n : Int) := by omega
          have hjaz : (a : Int) < (jp : Int) + 1 := by omega
          have hd1 : decide ((a : Int) < (jp : Int) + 1) = true := decide_eq_true hjaz
          cases hlv : ltB xj xp with
          | true =>
            have HLV := Lib.hid hlv
            have C1 : Hid (∀ w, Calls Try.prog 78 #[.int .u8 (xj.toNat : Int), .int .u8 (xp.toNat : Int)] w fun e w' => e = .returned (.bool true) ∧ w' = w) := Lib.hid (fun w => by have := C.out xj xp w; rwa [hlv] at this)
            clear hlv
            go_wp2_with fail
            go_quiet (first | (go_at_call 78; refine Calls.quiet_of_same (C1.out _)))
            go_wp2
            go_region
            all_goals
              go_wp2
              go_roundg jp
              case measure => omega
              case rel =>
                refine ⟨jp, swp dj (jp + 1) jp, by go_num, by omega, by omega, Nat.le_refl _, Lib.hid (by rw [size_swp]; exact HSj.out), Lib.hid ?_, Lib.hid (only_swap HBj.out _ _ _ _ _), Lib.hid ?_⟩
                · have := swap_holds (holds_drewN HKj.out (nq + 1)) (i := jp + 1) (j := jp) (by have := HSj.out; omega) (by have := HSj.out; omega) (by omega)
                  rw [XJ.out, XP.out] at this
                  exact this
                · have := insInner_go ltB a (jp + 1) dj hja (by simp only [Nat.add_sub_cancel]; rw [XJ.out, XP.out]; exact HLV.out)
                  simp only [Nat.add_sub_cancel] at this
                  rw [← HI.out, this]
          | false =>
            have HO2 := Lib.hid (OUT.out (.inr hlv))
            have C1 : Hid (∀ w, Calls Try.prog 78 #[.int .u8 (xj.toNat : Int), .int .u8 (xp.toNat : Int)] w fun e w' => e = .returned (.bool false) ∧ w' = w) := Lib.hid (fun w => by have := C.out xj xp w; rwa [hlv] at this)
            clear hlv OUT
            go_wp2_with fail
            go_quiet (first | (go_at_call 78; refine Calls.quiet_of_same (C1.out _)))
            go_wp2
            go_roundg (b - (i + 1))
            case measure => omega
            case rel => exact ⟨i + 1, dj, by go_num, by omega, by omega, by omega, HSj, Lib.hid (holds_drewN HKj.out _), Lib.hid (only_drewN HBj.out _), HO2⟩
        · have HO2 := Lib.hid (OUT.out (.inl (by omega)))
          have hjaz : ¬ ((a : Int) < (j : Int)) := by omega
          have hd1 : decide ((a : Int) < (j : Int)) = false := decide_eq_false hjaz
          clear OUT
          go_wp2_with fail
          go_quiet (fail)
          go_wp2
          go_roundg (b - (i + 1))
          case measure => omega
          case rel => exact ⟨i + 1, dj, by go_num, by omega, by omega, by omega, HSj, Lib.hid (holds_drewN HKj.out _), Lib.hid (only_drewN HBj.out _), HO2⟩
    · have hltz : ¬ ((i : Int) < (b : Int)) := by omega
      have HE : Hid (dk = insertionSort ltB d a b) := Lib.hid (by unfold insertionSort; rw [← HO.out, insOuter_stop _ _ _ _ _ hlt])
      go_wp2
      go_end0
      exact ⟨rfl, HE.out ▸ HK.out, HB.out⟩

/-- Sorted: the same bytes in ascending order. -/
def SortsU (d d' : Array UInt8) : Prop := PermIn 0 d.size d d' ∧ SortedIn ltB 0 d.size d'

set_option maxRecDepth 1000000 in
set_option maxHeartbeats 2000000 in
theorem pdq_small (blk off cap a b : Nat) (lim : Int) (d : Array UInt8) (w : World) (hH : Holds encB w blk off d) (hab : a ≤ b) (hb : b ≤ d.size) (h12 : b - a ≤ 12) (hsz : d.size ≤ 1000000) :
    Calls Try.prog 65 #[.slice (some ⟨blk, off, none⟩) d.size cap, .int .i64 (a : Int), .int .i64 (b : Int), .int .i64 lim] w fun e w' => e = .returned (.tuple #[]) ∧ Holds encB w' blk off (insertionSort ltB d a b) ∧ OnlyAt blk w.heap.size w w' := by
  have C := Lib.hid (insertion_any blk off cap a b d w hH hab hb hsz)
  have hw : IntKind.i64.wrap ((b : Int) - (a : Int)) = (b : Int) - (a : Int) := by rw [IntKind.wrap_i64]; omega
  have hz : (b : Int) - (a : Int) ≤ 12 := by omega
  obtain ⟨n, hn⟩ : ∃ n, d.size = n := ⟨_, rfl⟩
  rw [hn] at C hsz hb
  rw [hn]
  clear hH hn
  go_enter Try.func65, Try.ntmps65
  go_wp2
  go_loopg [1, 2] 1 (fun g s1 s2 wr => s1 = .int .i64 (a : Int) ∧ s2 = .int .i64 (b : Int) ∧ wr = w)
  case atStart => exact ⟨rfl, rfl, rfl⟩
  case round =>
    obtain ⟨rfl, rfl, rfl⟩ := hrel
    go_wp2_with (go_at_call 72; refine C.out.mono ?_; rintro e w' ⟨rfl, h1, h2⟩)
    refine bodyPost_ret (results_none rfl _ _ _) rfl ?_
    exact ⟨rfl, h1, h2⟩

theorem sort_small (blk off cap : Nat) (d : Array UInt8) (w : World) (hH : Holds encB w blk off d) (h12 : d.size ≤ 12) :
    Calls Try.prog 51 #[.slice (some ⟨blk, off, none⟩) d.size cap] w fun e w' => e = .returned (.tuple #[]) ∧ ∃ d', Holds encB w' blk off d' ∧ SortsU d d' ∧ OnlyAt blk w.heap.size w w' := by
  have C := Lib.hid (fun lim => pdq_small blk off cap 0 d.size lim d w hH (Nat.zero_le _) (Nat.le_refl _) (by omega) (by omega))
  have C2 := Lib.hid (Try.bits_Len (d.size : Int) w (by omega) (by omega))
  have HI : Hid (SortsU d (insertionSort ltB d 0 d.size)) := Lib.hid (insertionSort_holds swo_ltB d 0 d.size (Nat.zero_le _) (Nat.le_refl _))
  obtain ⟨D, hD⟩ : ∃ D, insertionSort ltB d 0 d.size = D := ⟨_, rfl⟩
  rw [hD] at C HI
  obtain ⟨n, hn⟩ : ∃ n, d.size = n := ⟨_, rfl⟩
  rw [hn] at C C2 h12
  rw [hn]
  have hw : IntKind.u64.wrap (n : Int) = (n : Int) := by
    unfold IntKind.wrap
    simp [IntKind.bits, IntKind.signed]
    omega
  clear hH hn hD
  go_enter Try.func51, Try.ntmps51
  go_wp2_with (first
    | (go_at_call 66; refine C2.out.mono ?_; rintro e w' ⟨rfl, rfl⟩)
    | (go_at_call 65; refine (C.out _).mono ?_; rintro e w' ⟨rfl, h1, h2⟩))
  go_end0
  exact ⟨rfl, D, h1, HI.out, h2⟩
end Go.Proofs.Ytchobpfdmkgnoaa
