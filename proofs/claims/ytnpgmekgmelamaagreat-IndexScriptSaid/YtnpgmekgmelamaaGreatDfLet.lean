/-
  What is proved: what slices.Sort's functions do to bytes in memory: cmp.Less, the insertion sort, and slices.Sort at twelve bytes or fewer. Nothing else that lay in memory is changed.
  What is proved: plain facts on the letters of a glob: the bytes that stand for themselves, each once, in ascending order; what sorting and dropping repetitions make; the sample of the classes.
  What is proved: what dfa.letters returns: the letters of its string, each once, in ascending order; taken that slices.Sort sorts. What lay in memory before stands as it stood.
-/
import Derived.Test.YtnpgmekgmelamaaGreatNfTake
import Derived.Sort.WalkA
import Derived.Lib.SlicesCompact
import Derived.BigRegion
import Derived.Test.YtnpgmekgmelamaaGreatDfMath
import Derived.Test.YtnpgmekgmelamaaGreatShelfB
import Derived.Laws.IdiomStrings
import Derived.Lib.OwnBridge
namespace Go.Proofs.YtnpgmekgmelamaaGreat
open Go.RowKit Go.Shelf Go.Sort

def encB (c : UInt8) : Value := .int .u8 (c.toNat : Int)
def ltB (x y : UInt8) : Bool := decide (x.toNat < y.toNat)
theorem swo_ltB : SWO ltB where
  irrefl x := by simp [ltB]
  trans x y z h1 h2 := by simp only [ltB, decide_eq_true_eq] at *; omega
  ntrans x y z h1 h2 := by simp only [ltB, decide_eq_false_iff_not] at *; omega

theorem isNaN_any (x : Int) (w : World) : Calls Tryz.prog 179 #[.int .u8 x] w fun e w' => e = .returned (.bool false) ∧ w' = w := by
  go_enter Tryz.func179, Tryz.ntmps179
  go_wp2
  go_ret
  exact ⟨by simp, rfl⟩
theorem less_any (x y : UInt8) (w : World) : Calls Tryz.prog 171 #[.int .u8 (x.toNat : Int), .int .u8 (y.toNat : Int)] w fun e w' => e = .returned (.bool (ltB x y)) ∧ w' = w := by
  have C := Lib.hid (fun x => isNaN_any x w)
  go_enter Tryz.func171, Tryz.ntmps171
  go_wp2_with (go_at_call 179; refine (C.out _).mono ?_; rintro e w' ⟨rfl, rfl⟩)
  go_ret
  exact ⟨rfl, rfl⟩

/-- Two bytes exchanged. -/
theorem swap_holds {W : World} {blk off : Nat} {d : Array UInt8} (h : Holds encB W blk off d) {i j : Nat} (hi : i < d.size) (hj : j < d.size) (hij : i ≠ j) :
    Holds encB ((W.setCell ⟨blk, off + i, none⟩ (encB d[j]!)).setCell ⟨blk, off + j, none⟩ (encB d[i]!)) blk off (swp d i j) := by
  intro k hk
  rw [size_swp] at hk
  obtain ⟨ck, fk⟩ := h k hk
  refine ⟨?_, by rw [World.frozen?_setCell, World.frozen?_setCell]; exact fk⟩
  have ne : ∀ a b : Nat, a ≠ b → (⟨blk, off + a, none⟩ : Addr) ≠ ⟨blk, off + b, none⟩ := fun a b hab e => hab (by injection e with _ e; omega)
  by_cases e1 : k = j
  · subst e1
    have hc1 : (W.setCell ⟨blk, off + i, none⟩ (encB d[k]!)).cell? ⟨blk, off + k, none⟩ = some (encB d[k]!) := by
      rw [World.cell?_setCell_other _ _ _ _ (ne i k hij)]; exact ck
    rw [World.cell?_setCell_same _ _ _ hc1, swp_right d i k hk]
  · rw [World.cell?_setCell_other _ _ _ _ (ne j k (Ne.symm e1))]
    by_cases e2 : k = i
    · subst e2
      rw [World.cell?_setCell_same _ _ _ ck, swp_left d k j hk hij]
    · rw [World.cell?_setCell_other _ _ _ _ (ne i k (Ne.symm e2)), ck, swp_other d i j k e2 e1]
theorem holds_drewN {W : World} {blk off : Nat} {d : Array UInt8} (h : Holds encB W blk off d) (q : Nat) : Holds encB (W.drewN q) blk off d := h
theorem only_drewN {s B : Nat} {a w : World} (h : OnlyAt s B a w) (q : Nat) : OnlyAt s B a (w.drewN q) := ⟨h.os, h.tape, h.output, h.size, h.block⟩
theorem only_swap {s B : Nat} {a w : World} (h : OnlyAt s B a w) (q i j : Nat) (u v : Value) : OnlyAt s B a (((w.drewN q).setCell ⟨s, i, none⟩ u).setCell ⟨s, j, none⟩ v) := ((only_drewN h q).set i u).set j v

set_option maxRecDepth 100000 in
set_option maxHeartbeats 4000000 in
/-- slices.insertionSortOrdered. -/
theorem insertion_any (blk off cap a b : Nat) (d : Array UInt8) (w : World) (hH : Holds encB w blk off d) (hab : a ≤ b) (hb : b ≤ d.size) (hsz : d.size ≤ 1000000) :
    Calls Tryz.prog 165 #[.slice (some ⟨blk, off, none⟩) d.size cap, .int .i64 (a : Int), .int .i64 (b : Int)] w fun e w' => e = .returned (.tuple #[]) ∧ Holds encB w' blk off (insertionSort ltB d a b) ∧ OnlyAt blk w.heap.size w w' := by
  have C := Lib.hid less_any
  obtain ⟨n, hn⟩ : ∃ n, d.size = n := ⟨_, rfl⟩
  have HH : Hid (Holds encB w blk off d) := hH
  have HN : Hid (d.size = n) := hn
  rw [hn] at hb hsz
  rw [hn]
  clear hH hn
  go_enter Tryz.func165, Tryz.ntmps165
  go_wp2
  go_loopg [6, 7] (b - a) (fun g1 s6 s7 wr => ∃ (i : Nat) (dk : Array UInt8), s6 = .int .i64 i ∧ a < i ∧ i ≤ b + 1 ∧ b + 1 - i ≤ g1 + 1 ∧ Hid (dk.size = n) ∧ Hid (Holds encB wr blk off dk) ∧ Hid (OnlyAt blk w.heap.size w wr) ∧ Hid (insOuter ltB a b i dk = insOuter ltB a b (a + 1) d))
  case atStart => exact ⟨a + 1, d, by go_num, by omega, by omega, by omega, HN, HH, Lib.hid (OnlyAt.refl _ _ _), Lib.hid rfl⟩
  case round =>
    obtain ⟨i, dk, rfl, hai, hib, hg1, HS, HK, HB, HO⟩ := hrel
    clear HH
    by_cases hlt : i < b
    · have hltz : (i : Int) < (b : Int) := by omega
      go_wp2
      go_loopg [7] i (fun g2 s7 wr2 => ∃ (j : Nat) (dj : Array UInt8), s7 = .int .i64 j ∧ a ≤ j ∧ j ≤ i ∧ j ≤ g2 ∧ Hid (dj.size = n) ∧ Hid (Holds encB wr2 blk off dj) ∧ Hid (OnlyAt blk w.heap.size w wr2) ∧ Hid (insInner ltB a j dj = insInner ltB a i dk))
      case atStart => exact ⟨i, dk, rfl, by omega, Nat.le_refl _, Nat.le_refl _, HS, HK, HB, Lib.hid rfl⟩
      case round =>
        obtain ⟨j, dj, rfl, haj, hji, hg2, HSj, HKj, HBj, HI⟩ := hrel
        have OUT : Hid ((j ≤ a ∨ ltB dj[j]! dj[j - 1]! = false) → insOuter ltB a b (i + 1) dj = insOuter ltB a b (a + 1) d) := Lib.hid (fun hs => by
          rw [← HO.out, insOuter_go _ _ _ _ _ hlt, ← HI.out, insInner_stop _ _ _ _ hs])
        clear HK HB HO HS
        by_cases hja : a < j
        · obtain ⟨jp, rfl⟩ : ∃ jp, j = jp + 1 := ⟨j - 1, by omega⟩
          simp only [Nat.add_sub_cancel] at OUT
          have cj := (HKj.out (jp + 1) (by have := HSj.out; omega)).1
          have cp := (HKj.out jp (by have := HSj.out; omega)).1
          have fj := (HKj.out (jp + 1) (by have := HSj.out; omega)).2
          have fp := (HKj.out jp (by have := HSj.out; omega)).2
          obtain ⟨xj, hxj⟩ : ∃ x, dj[jp + 1]! = x := ⟨_, rfl⟩
          obtain ⟨xp, hxp⟩ : ∃ x, dj[jp]! = x := ⟨_, rfl⟩
          rw [hxj] at cj OUT
          rw [hxp] at cp OUT
          unfold encB at cj cp
          have XJ := Lib.hid hxj
          have XP := Lib.hid hxp
          clear hxj hxp
          have hwp : IntKind.i64.wrap (jp : Int) = (jp : Int) := by rw [IntKind.wrap_i64]; omega
          have jz : (jp : Int) + 1 < (n : Int) := by omega
          have jz1 : (jp : Int) < (n : Int) := by omega
          have hjaz : (a : Int) < (jp : Int) + 1 := by omega
          have hd1 : decide ((a : Int) < (jp : Int) + 1) = true := decide_eq_true hjaz
          cases hlv : ltB xj xp with
          | true =>
            have HLV := Lib.hid hlv
            have C1 : Hid (∀ w, Calls Tryz.prog 171 #[.int .u8 (xj.toNat : Int), .int .u8 (xp.toNat : Int)] w fun e w' => e = .returned (.bool true) ∧ w' = w) := Lib.hid (fun w => by have := C.out xj xp w; rwa [hlv] at this)
            clear hlv
            go_wp2_with fail
            go_quiet (first | (go_at_call 171; refine Calls.quiet_of_same (C1.out _)))
            go_wp2
            go_region
            all_goals
              go_wp2
              go_roundg jp
              case measure => omega
              case rel =>
                refine ⟨jp, swp dj (jp + 1) jp, by go_num, by omega, by omega, Nat.le_refl _, Lib.hid (by rw [size_swp]; exact HSj.out), Lib.hid ?_, Lib.hid (only_swap HBj.out _ _ _ _ _), Lib.hid ?_⟩
                · have := swap_holds (holds_drewN HKj.out (nq + 1)) (i := jp + 1) (j := jp) (by have := HSj.out; omega) (by have := HSj.out; omega) (by omega)
                  rw [XJ.out, XP.out] at this
                  exact this
                · have := insInner_go ltB a (jp + 1) dj hja (by simp only [Nat.add_sub_cancel]; rw [XJ.out, XP.out]; exact HLV.out)
                  simp only [Nat.add_sub_cancel] at this
                  rw [← HI.out, this]
          | false =>
            have HO2 := Lib.hid (OUT.out (.inr hlv))
            have C1 : Hid (∀ w, Calls Tryz.prog 171 #[.int .u8 (xj.toNat : Int), .int .u8 (xp.toNat : Int)] w fun e w' => e = .returned (.bool false) ∧ w' = w) := Lib.hid (fun w => by have := C.out xj xp w; rwa [hlv] at this)
            clear hlv OUT
            go_wp2_with fail
            go_quiet (first | (go_at_call 171; refine Calls.quiet_of_same (C1.out _)))
            go_wp2
            go_roundg (b - (i + 1))
            case measure => omega
            case rel => exact ⟨i + 1, dj, by go_num, by omega, by omega, by omega, HSj, Lib.hid (holds_drewN HKj.out _), Lib.hid (only_drewN HBj.out _), HO2⟩
        · have HO2 := Lib.hid (OUT.out (.inl (by omega)))
          have hjaz : ¬ ((a : Int) < (j : Int)) := by omega
          have hd1 : decide ((a : Int) < (j : Int)) = false := decide_eq_false hjaz
          clear OUT
          go_wp2_with fail
          go_quiet (fail)
          go_wp2
          go_roundg (b - (i + 1))
          case measure => omega
          case rel => exact ⟨i + 1, dj, by go_num, by omega, by omega, by omega, HSj, Lib.hid (holds_drewN HKj.out _), Lib.hid (only_drewN HBj.out _), HO2⟩
    · have hltz : ¬ ((i : Int) < (b : Int)) := by omega
      have HE : Hid (dk = insertionSort ltB d a b) := Lib.hid (by unfold insertionSort; rw [← HO.out, insOuter_stop _ _ _ _ _ hlt])
      go_wp2
      go_end0
      exact ⟨rfl, HE.out ▸ HK.out, HB.out⟩

/-- Sorted: the same bytes in ascending order. -/
def SortsU (d d' : Array UInt8) : Prop := PermIn 0 d.size d d' ∧ SortedIn ltB 0 d.size d'

set_option maxRecDepth 1000000 in
set_option maxHeartbeats 2000000 in
theorem pdq_small (blk off cap a b : Nat) (lim : Int) (d : Array UInt8) (w : World) (hH : Holds encB w blk off d) (hab : a ≤ b) (hb : b ≤ d.size) (h12 : b - a ≤ 12) (hsz : d.size ≤ 1000000) :
    Calls Tryz.prog 154 #[.slice (some ⟨blk, off, none⟩) d.size cap, .int .i64 (a : Int), .int .i64 (b : Int), .int .i64 lim] w fun e w' => e = .returned (.tuple #[]) ∧ Holds encB w' blk off (insertionSort ltB d a b) ∧ OnlyAt blk w.heap.size w w' := by
  have C := Lib.hid (insertion_any blk off cap a b d w hH hab hb hsz)
  have hw : IntKind.i64.wrap ((b : Int) - (a : Int)) = (b : Int) - (a : Int) := by rw [IntKind.wrap_i64]; omega
  have hz : (b : Int) - (a : Int) ≤ 12 := by omega
  obtain ⟨n, hn⟩ : ∃ n, d.size = n := ⟨_, rfl⟩
  rw [hn] at C hsz hb
  rw [hn]
  clear hH hn
  go_enter Tryz.func154, Tryz.ntmps154
  go_wp2
  go_loopg [1, 2] 1 (fun g s1 s2 wr => s1 = .int .i64 (a : Int) ∧ s2 = .int .i64 (b : Int) ∧ wr = w)
  case atStart => exact ⟨rfl, rfl, rfl⟩
  case round =>
    obtain ⟨rfl, rfl, rfl⟩ := hrel
    go_wp2_with (go_at_call 165; refine C.out.mono ?_; rintro e w' ⟨rfl, h1, h2⟩)
    refine bodyPost_ret (results_none rfl _ _ _) rfl ?_
    exact ⟨rfl, h1, h2⟩

theorem sort_small (blk off cap : Nat) (d : Array UInt8) (w : World) (hH : Holds encB w blk off d) (h12 : d.size ≤ 12) :
    Calls Tryz.prog 130 #[.slice (some ⟨blk, off, none⟩) d.size cap] w fun e w' => e = .returned (.tuple #[]) ∧ ∃ d', Holds encB w' blk off d' ∧ SortsU d d' ∧ OnlyAt blk w.heap.size w w' := by
  have C := Lib.hid (fun lim => pdq_small blk off cap 0 d.size lim d w hH (Nat.zero_le _) (Nat.le_refl _) (by omega) (by omega))
  have C2 := Lib.hid (Tryz.bits_Len (d.size : Int) w (by omega) (by omega))
  have HI : Hid (SortsU d (insertionSort ltB d 0 d.size)) := Lib.hid (insertionSort_holds swo_ltB d 0 d.size (Nat.zero_le _) (Nat.le_refl _))
  obtain ⟨D, hD⟩ : ∃ D, insertionSort ltB d 0 d.size = D := ⟨_, rfl⟩
  rw [hD] at C HI
  obtain ⟨n, hn⟩ : ∃ n, d.size = n := ⟨_, rfl⟩
  rw [hn] at C C2 h12
  rw [hn]
  have hw : IntKind.u64.wrap (n : Int) = (n : Int) := by
    unfold IntKind.wrap
    simp [IntKind.bits, IntKind.signed]
    omega
  clear hH hn hD
  go_enter Tryz.func130, Tryz.ntmps130
  go_wp2_with (first
    | (go_at_call 125; refine C2.out.mono ?_; rintro e w' ⟨rfl, rfl⟩)
    | (go_at_call 154; refine (C.out _).mono ?_; rintro e w' ⟨rfl, h1, h2⟩))
  go_end0
  exact ⟨rfl, D, h1, HI.out, h2⟩
end Go.Proofs.YtnpgmekgmelamaaGreat

namespace Go.Proofs.YtnpgmekgmelamaaGreat
open Go.Sort

def wildC (c : UInt8) : Bool := c == 42 || c == 63
def allB : List UInt8 := (List.range 256).map UInt8.ofNat
/-- The letters of B, each once, in ascending order. -/
def letL (B : List UInt8) : List UInt8 := allB.filter fun c => B.contains c && !wildC c
theorem allB_mem (c : UInt8) : c ∈ allB := by
  unfold allB
  rw [List.mem_map]
  exact ⟨c.toNat, List.mem_range.2 c.toNat_lt, UInt8.ofNat_toNat⟩
theorem allB_asc : allB.Pairwise (fun a b => a.toNat < b.toNat) := by
  unfold allB
  rw [List.pairwise_map, List.pairwise_iff_getElem]
  intro i j hi hj hij
  simp only [List.length_range] at hi hj
  simp only [List.getElem_range, UInt8.toNat_ofNat']
  omega
theorem mem_letL {B : List UInt8} {c : UInt8} : c ∈ letL B ↔ c ∈ B ∧ wildC c = false := by
  unfold letL
  rw [List.mem_filter]
  simp [allB_mem]
theorem letL_asc (B : List UInt8) : (letL B).Pairwise (fun a b => a.toNat < b.toNat) := allB_asc.filter _
theorem asc_nodup {l : List UInt8} (h : l.Pairwise (fun a b => a.toNat < b.toNat)) : l.Nodup := h.imp (fun hab e => by subst e; exact absurd hab (Nat.lt_irrefl _))
theorem asc_eq {a b : List UInt8} (ha : a.Pairwise (fun x y => x.toNat < y.toNat)) (hb : b.Pairwise (fun x y => x.toNat < y.toNat)) (h : ∀ c, c ∈ a ↔ c ∈ b) : a = b := by
  have hp : a.Perm b := (List.perm_ext_iff_of_nodup (asc_nodup ha) (asc_nodup hb)).2 h
  exact hp.eq_of_pairwise (le := fun x y => x.toNat < y.toNat) (fun x y _ _ h1 h2 => absurd h1 (by omega)) ha hb

theorem compact_asc {d : Array UInt8} (hs : SortedIn ltB 0 d.size d) : ∀ m, m ≤ d.size → (Lib.compactUpTo d m).Pairwise (fun a b => a.toNat < b.toNat) ∧ ∀ x, x ∈ Lib.compactUpTo d m → ∃ j, j < m ∧ d[j]! = x
  | 0, _ => ⟨by simp [Lib.compactUpTo], fun x hx => by simp [Lib.compactUpTo] at hx⟩
  | m + 1, hm => by
    obtain ⟨h1, h2⟩ := compact_asc hs m (by omega)
    rw [Lib.compactUpTo_succ]
    refine ⟨?_, fun x hx => ?_⟩
    · cases hk : Lib.keeps d m with
      | false => simpa using h1
      | true =>
        rw [if_pos rfl, List.pairwise_append]
        refine ⟨h1, by simp, fun x hx y hy => ?_⟩
        have hy' : y = d[m]! := by simpa using hy
        subst hy'
        obtain ⟨j, hj, rfl⟩ := h2 x hx
        have hle : ∀ i, j ≤ i → i < d.size → (d[j]!).toNat ≤ (d[i]!).toNat := fun i hji hi => by
          by_cases e : j = i
          · subst e; exact Nat.le_refl _
          · have := hs j i (Nat.zero_le _) (by omega) hi
            simp only [ltB, decide_eq_false_iff_not] at this; omega
        have hne : d[m]! ≠ d[m - 1]! := by
          unfold Lib.keeps at hk
          rcases of_decide_eq_true hk with e | e
          · omega
          · exact e
        have h3 := hle (m - 1) (by omega) (by omega)
        have h4 := hs (m - 1) m (Nat.zero_le _) (by omega) (by omega)
        simp only [ltB, decide_eq_false_iff_not] at h4
        have h5 : (d[m]!).toNat ≠ (d[m - 1]!).toNat := fun e => hne (UInt8.toNat_inj.1 e)
        show (d[j]!).toNat < (d[m]!).toNat
        omega
    · rcases List.mem_append.1 hx with h | h
      · obtain ⟨j, hj, e⟩ := h2 x h; exact ⟨j, by omega, e⟩
      · cases hk : Lib.keeps d m with
        | false => rw [hk] at h; simp at h
        | true =>
          rw [hk] at h
          have : x = d[m]! := by simpa using h
          exact ⟨m, by omega, this.symm⟩
theorem compact_has (d : Array UInt8) : ∀ m j, j < m → d[j]! ∈ Lib.compactUpTo d m
  | 0, j, h => absurd h (Nat.not_lt_zero j)
  | m + 1, j, h => by
    rw [Lib.compactUpTo_succ]
    by_cases e : j = m
    · subst e
      cases hk : Lib.keeps d j with
      | true => simp
      | false =>
        have h0 : ¬ (j = 0 ∨ d[j]! ≠ d[j - 1]!) := of_decide_eq_false hk
        have h1 : d[j]! = d[j - 1]! := by
          by_cases e : d[j]! = d[j - 1]!
          · exact e
          · exact absurd (.inr e) h0
        have h2 : j ≠ 0 := fun e => h0 (.inl e)
        rw [h1]
        exact List.mem_append_left _ (compact_has d j (j - 1) (by omega))
    · exact List.mem_append_left _ (compact_has d m j (by omega))

theorem arr_get (d : Array UInt8) {j : Nat} (h : j < d.size) : d[j]! = d.toList[j]'(by simpa using h) := by rw [getElem!_pos d j h]; simp
theorem compact_let {B : List UInt8} {d : Array UInt8} (hp : d.toList.Perm (B.filter fun c => !wildC c)) (hs : SortedIn ltB 0 d.size d) : Lib.compactUpTo d d.size = letL B := by
  obtain ⟨h1, h2⟩ := compact_asc hs d.size (Nat.le_refl _)
  refine asc_eq h1 (letL_asc B) (fun c => ?_)
  rw [mem_letL]
  have hm : c ∈ d.toList ↔ c ∈ B ∧ wildC c = false := by rw [hp.mem_iff, List.mem_filter]; simp
  rw [← hm]
  constructor
  · intro h
    obtain ⟨j, hj, rfl⟩ := h2 c h
    rw [arr_get d hj]; exact List.getElem_mem _
  · intro h
    obtain ⟨j, hj, e⟩ := List.mem_iff_getElem.1 h
    have hj' : j < d.size := by simpa using hj
    rw [← e, ← arr_get d hj']
    exact compact_has d d.size j hj'

/-- The sample: the * for class 0, then the letters. -/
def sampL (B : List UInt8) : List UInt8 := 42 :: letL B
theorem samp_fits (B : List UInt8) : Fits B (sampL B) where
  head := rfl
  has c hc h1 h2 := List.mem_cons_of_mem _ (mem_letL.2 ⟨hc, by simp [wildC, h1, h2]⟩)
  only c hc := by
    rcases List.mem_cons.1 hc with h | h
    · exact .inl h
    · obtain ⟨h1, h2⟩ := mem_letL.1 h
      refine .inr ⟨h1, fun e => ?_⟩
      subst e; exact absurd h2 (by decide)
theorem samp_nodup (B : List UInt8) : (sampL B).Nodup := by
  unfold sampL
  rw [List.nodup_cons]
  refine ⟨fun h => ?_, asc_nodup (letL_asc B)⟩
  have := (mem_letL.1 h).2
  exact absurd this (by decide)
theorem nodup_len : ∀ (a b : List UInt8), a.Nodup → (∀ c, c ∈ a → c ∈ b) → a.length ≤ b.length
  | [], b, _, _ => Nat.zero_le _
  | x :: a, b, hn, h => by
    rw [List.nodup_cons] at hn
    have hx := h x (by simp)
    have h1 := nodup_len a (b.erase x) hn.2 (fun c hc => (List.mem_erase_of_ne (fun e : c = x => hn.1 (by rw [← e]; exact hc))).2 (h c (by simp [hc])))
    rw [List.length_erase_of_mem hx] at h1
    have : 0 < b.length := List.length_pos_of_mem hx
    simp only [List.length_cons]; omega
theorem letL_len (B : List UInt8) : (letL B).length ≤ B.length := nodup_len _ _ (asc_nodup (letL_asc B)) (fun _ hc => (mem_letL.1 hc).1)
theorem foldC_idem (c : UInt8) : foldC (foldC c) = foldC c := by
  have h : ∀ i : Fin 256, foldC (foldC (UInt8.ofNat i.1)) = foldC (UInt8.ofNat i.1) := by decide +kernel
  have := h ⟨c.toNat, c.toNat_lt⟩
  simpa using this
theorem cntC_idem (f : Bool) (c : UInt8) : cntC f (cntC f c) = cntC f c := by cases f <;> simp [cntC, foldC_idem]
theorem samp_cnt (f : Bool) (P : List UInt8) : ∀ c, c ∈ sampL (cntL f P) → cntC f c = c := by
  intro c hc
  rcases List.mem_cons.1 hc with rfl | h
  · cases f <;> rfl
  · obtain ⟨i, hi⟩ := List.mem_iff_getElem?.1 (mem_letL.1 h).1
    rw [cntL_at] at hi
    cases hp : P[i]? with
    | none => rw [hp] at hi; simp at hi
    | some d =>
      rw [hp] at hi
      have : cntC f d = c := by simpa using hi
      rw [← this, cntC_idem]
end Go.Proofs.YtnpgmekgmelamaaGreat

namespace Go.Proofs.YtnpgmekgmelamaaGreat
open Go.RowKit Go.Shelf Go.Sort

theorem eql_b : EqlAt Tryz.prog 5 encB (fun x y => decide (x = y)) := by
  refine ⟨fun x y w => ?_, fun op a b x y w => GuardAt.int _ _ .u8 op a b _ _ w⟩
  have := (EqlAt.int Tryz.prog 5 .u8).1 (x.toNat : Int) (y.toNat : Int) w
  have e : (((x.toNat : Int) == (y.toNat : Int))) = decide (x = y) := by
    rw [byte_beq]
    by_cases h : x = y <;> simp [h]
  dsimp only at this ⊢
  rw [e] at this
  exact this
theorem neq_b : NeqAt Tryz.prog 5 encB (fun x y => decide (x = y)) := by
  refine ⟨fun x y w => ?_, fun op a b x y w => GuardAt.int _ _ .u8 op a b _ _ w⟩
  have := (NeqAt.int Tryz.prog 5 .u8).1 (x.toNat : Int) (y.toNat : Int) w
  have e : (((x.toNat : Int) == (y.toNat : Int))) = decide (x = y) := by
    rw [byte_beq]
    by_cases h : x = y <;> simp [h]
  dsimp only at this ⊢
  rw [e] at this
  exact this
theorem zero_b (w : World) : (zeroValue 5).run Tryz.prog w = .ok (encB 0) w := by kernel_rfl
theorem one_b : Go.Proofs.OneCell encB := fun _ => rfl

theorem wild_any (c : UInt8) (w : World) : Calls Tryz.prog 129 #[.int .u8 (c.toNat : Int)] w fun e w' => e = .returned (.bool (wildC c)) ∧ w' = w := by
  have HE : Hid (wildC c = (((c.toNat : Int) == 42) || ((c.toNat : Int) == 63))) := Lib.hid (by
    unfold wildC
    rw [show (42 : Int) = ((42 : UInt8).toNat : Int) from rfl, show (63 : Int) = ((63 : UInt8).toNat : Int) from rfl, byte_beq, byte_beq])
  rw [HE.out]
  by_cases h : (c.toNat : Int) = 42
  · have h1 : ((c.toNat : Int) == 42) = true := by simpa using h
    rw [h1, Bool.true_or]
    go_enter Tryz.func129, Tryz.ntmps129
    go_wp2
    go_ret
    exact ⟨rfl, rfl⟩
  · have h1 : ((c.toNat : Int) == 42) = false := by simpa using h
    rw [h1, Bool.false_or]
    clear h
    go_enter Tryz.func129, Tryz.ntmps129
    go_wp2
    go_ret
    exact ⟨rfl, rfl⟩
theorem wild_gives (c : UInt8) (w : World) : FnGives Tryz.prog 129 #[] #[encB c] (.bool (wildC c)) w :=
  (wild_any c w).mono (fun _ _ ⟨h1, h2⟩ => ⟨h1, 0, h2⟩)

/-- slices.Sort, of n bytes. -/
def SortsN (n : Nat) : Prop := ∀ (blk cap : Nat) (d : Array UInt8) (w : World), d.size = n → Holds encB w blk 0 d →
  Calls Tryz.prog 130 #[.slice (some ⟨blk, 0, none⟩) n cap] w fun e w' => e = .returned (.tuple #[]) ∧ ∃ d', Holds encB w' blk 0 d' ∧ SortsU d d' ∧ OnlyAt blk w.heap.size w w'
theorem sortsN_small {n : Nat} (h : n ≤ 12) : SortsN n := fun blk cap d w hd hH => by
  have := sort_small blk 0 cap d w hH (by omega)
  rwa [hd] at this

theorem holds_list {w : World} {blk : Nat} {d : Array UInt8} (h : Holds encB w blk 0 d) (l : List UInt8) (e : ∀ j, j < l.length → j < d.size ∧ d[j]! = l.getD j 0) : Holds encB w blk 0 l.toArray := by
  intro j hj
  have hj' : j < l.length := by simpa using hj
  obtain ⟨h1, h2⟩ := e j hj'
  obtain ⟨c, f⟩ := h j h1
  refine ⟨?_, f⟩
  rw [c, h2, arr_get _ hj]
  simp [List.getD, hj']
theorem back_list {w : World} {blk cap : Nat} (l : List UInt8) (h : Holds encB w blk 0 l.toArray) : (convert 85 9 (.slice (some ⟨blk, 0, none⟩) l.length cap)).run Tryz.prog w = .ok (.string (str l)) w :=
  run_convert_bytes_back (P := Tryz.prog) w 85 9 5 ⟨blk, 0, none⟩ cap l Tryz.underlying85 Tryz.underlying5 Tryz.underlying9 (fun j hj => by
    have ea : (⟨blk, 0, none⟩ : Addr).add j = ⟨blk, j, none⟩ := by unfold Addr.add; split <;> simp_all
    have := (h j (by simpa using hj)).1
    rw [Nat.zero_add] at this
    rw [ea, this, arr_get _ (by simpa using hj)]
    rfl)

theorem putRow_only {w : World} {blk : Nat} (q off : Nat) (d : Array UInt8) : OnlyAt blk w.heap.size w (putRow encB (Sort.ahead w q) blk off d) :=
  ⟨rfl, rfl, rfl, by rw [size_putRow]; exact Nat.le_refl _, fun k hk hs => by
    show (mapBlock _ _ _).heap[k]? = _
    unfold mapBlock
    simp only [Array.getElem?_modify, if_neg (Ne.symm hs)]
    rfl⟩

theorem perm_list {d d' : Array UInt8} (h : PermIn 0 d.size d d') : d'.size = d.size ∧ d'.toList.Perm d.toList := by
  obtain ⟨h1, _, h3⟩ := h
  refine ⟨h1, ?_⟩
  have e1 : d'.extract 0 d.size = d' := by rw [← h1]; exact Array.extract_size
  have e2 : d.extract 0 d.size = d := Array.extract_size
  rwa [e1, e2] at h3

set_option maxRecDepth 100000 in
set_option maxHeartbeats 2000000 in
theorem letters_any (B : List UInt8) (w : World) (hB : B.length ≤ 1000000) (HS : SortsN (B.filter fun c => !wildC c).length) :
    Calls Tryz.prog 109 #[.string (str B)] w fun e w' => e = .returned (.string (str (letL B))) ∧ Below w.heap.size w w' := by
  obtain ⟨S, hS⟩ : ∃ S, str B = S := ⟨_, rfl⟩
  rw [hS]
  have hSz : S.size = B.length := by rw [← hS, str_size]
  have hSB : S.data.toList = B := by rw [← hS, str_data]
  have hconv := run_bytes_of_string (P := Tryz.prog) w 9 85 5 S Tryz.underlying9 Tryz.underlying85 Tryz.underlying5
  obtain ⟨cap, hcap⟩ : ∃ cap, cap = grownCap w S.size 0 5 := ⟨_, rfl⟩
  have hcapS : S.size ≤ cap := by rw [hcap]; exact grownCap_ge w _ _ _
  rw [← hcap] at hconv
  clear hcap
  obtain ⟨W1, hW1⟩ : ∃ W1, W1 = (w.drew.alloc (.cells (bytesRow S cap) 5 ((bytesRow S cap).size, (bytesRow S cap).size + 1))) := ⟨_, rfl⟩
  have hH1 : Holds encB W1 w.heap.size 0 S.data := by
    intro j hj
    have hj' : j < S.size := hj
    have hb : j < (bytesRow S cap).size := by
      unfold bytesRow
      simp
      have : S.data.size = S.size := rfl
      omega
    subst hW1
    rw [Nat.zero_add]
    refine ⟨?_, ?_⟩
    · have := World.cell?_alloc_mark w.drew (bytesRow S cap) 5 ((bytesRow S cap).size, (bytesRow S cap).size + 1) j
      rw [show w.drew.heap.size = w.heap.size from rfl] at this
      rw [this, bytesRow_at S cap j hj', getElem!_pos S.data j hj]
      rfl
    · have := World.frozen?_alloc_mark w.drew (bytesRow S cap) 5 (bytesRow S cap).size ((bytesRow S cap).size + 1) j
      rw [show w.drew.heap.size = w.heap.size from rfl] at this
      rw [this]
      simp
      omega
  have hB1 : Below w.heap.size w W1 := by
    subst hW1
    exact (Below.refl _ w).drew.alloc (Nat.le_refl _) _
  have hz1 : w.heap.size < W1.heap.size := by subst hW1; rw [World.size_alloc]; exact Nat.lt_succ_self _
  rw [← hW1] at hconv
  clear hW1
  have eg : ∀ args w, (callFunc 129 args).run Tryz.prog w = .ok (.enter 129 args) w := enters_of Tryz.func129 (by kernel_rfl) rfl
  have C1 := AnyE.slices_DeleteFunc Tryz.laysDelB encB one_b wildC 129 #[] eg 0 zero_b w.heap.size 0 cap S.data W1 (fun W x _ => wild_gives x W) (fun n os dk x _ => wild_gives x _) hH1 (by show S.size ≤ _; omega) hcapS
  change Calls Tryz.prog 128 _ _ _ at C1
  rw [hSB] at C1
  obtain ⟨F, hF⟩ : ∃ F, (B.filter fun c => !wildC c) = F := ⟨_, rfl⟩
  rw [hF] at C1 HS
  have hFl : F.length ≤ S.size := by rw [hSz, ← hF]; exact List.length_filter_le _ _
  have C1' : Hid (Calls Tryz.prog 128 #[.slice (some ⟨w.heap.size, 0, none⟩) S.size cap, .func (.func 129) #[] #[]] W1 fun e w' => e = .returned (.slice (some ⟨w.heap.size, 0, none⟩) F.length cap) ∧ Holds encB w' w.heap.size 0 F.toArray ∧ Below w.heap.size w w') := Lib.hid (by
    refine C1.mono ?_
    rintro e w' ⟨rfl, q, rfl⟩
    refine ⟨rfl, ?_, hB1.trans ((putRow_only q 0 _).below (Nat.le_refl _) (by omega))⟩
    have hs : (F ++ List.replicate (S.data.size - F.length) (0 : UInt8)).toArray.size = S.data.size := by
      simp
      have : S.data.size = S.size := rfl
      omega
    refine holds_list (holds_putRow encB _ _ _ _ _ (holds_ahead encB W1 q _ _ _ hH1) hs) F (fun j hj => ⟨by simp; omega, ?_⟩)
    rw [arr_get _ (by simp; omega)]
    simp [List.getD, hj])
  have C2 : Hid (∀ w', Holds encB w' w.heap.size 0 F.toArray → Below w.heap.size w w' → Calls Tryz.prog 130 #[.slice (some ⟨w.heap.size, 0, none⟩) F.length cap] w' fun e w3 => e = .returned (.tuple #[]) ∧ Below w.heap.size w w3 ∧ ∃ d', Holds encB w3 w.heap.size 0 d' ∧ SortsU F.toArray d') := Lib.hid (fun w' h hb => by
    refine (HS w.heap.size cap F.toArray w' (by simp) h).mono ?_
    rintro e w3 ⟨rfl, d', h1, h2, h3⟩
    exact ⟨rfl, hb.trans (h3.below (Nat.le_refl _) hb.size), d', h1, h2⟩)
  have C3 : Hid (∀ w3 d', Holds encB w3 w.heap.size 0 d' → SortsU F.toArray d' → Below w.heap.size w w3 → Calls Tryz.prog 131 #[.slice (some ⟨w.heap.size, 0, none⟩) F.length cap] w3 fun e w4 => e = .returned (.slice (some ⟨w.heap.size, 0, none⟩) (letL B).length cap) ∧ (convert 85 9 (.slice (some ⟨w.heap.size, 0, none⟩) (letL B).length cap)).run Tryz.prog w4 = .ok (.string (str (letL B))) w4 ∧ Below w.heap.size w w4) := Lib.hid (fun w3 d' h hs hb => by
    obtain ⟨hp, hso⟩ := hs
    obtain ⟨e1, e2⟩ := perm_list hp
    have hds : d'.size = F.length := by rw [e1]; simp
    rw [show (F.toArray).size = d'.size from e1.symm] at hso
    have hc : Lib.compactUpTo d' d'.size = letL B := compact_let (by rw [hF]; simpa using e2) hso
    have := AnyE.slices_Compact Tryz.laysCompB encB one_b eql_b neq_b 0 zero_b w.heap.size 0 cap d' w3 h (by omega) (by omega)
    change Calls Tryz.prog 131 _ _ _ at this
    rw [hc, hds] at this
    have hle : (letL B).length ≤ F.length := by
      rw [← hc, ← hds]
      unfold Lib.compactUpTo
      rw [List.length_map]
      exact Nat.le_trans (List.length_filter_le _ _) (by simp)
    refine this.mono ?_
    rintro e w4 ⟨rfl, q, rfl⟩
    refine ⟨rfl, ?_, hb.trans ((putRow_only q 0 _).below (Nat.le_refl _) hb.size)⟩
    apply back_list
    have hs2 : (letL B ++ List.replicate (F.length - (letL B).length) (0 : UInt8)).toArray.size = d'.size := by simp; omega
    refine holds_list (holds_putRow encB _ _ _ _ _ (holds_ahead encB w3 q _ _ _ h) hs2) (letL B) (fun j hj => ⟨by simp; omega, ?_⟩)
    rw [arr_get _ (by simp; omega)]
    simp [List.getD, hj])
  obtain ⟨n, hn⟩ : ∃ n, F.length = n := ⟨_, rfl⟩
  obtain ⟨k, hk⟩ : ∃ k, (letL B).length = k := ⟨_, rfl⟩
  obtain ⟨R, hR⟩ : ∃ R, str (letL B) = R := ⟨_, rfl⟩
  rw [hn] at C1' C2 C3
  rw [hk, hR] at C3
  rw [hR]
  clear HS C1 hH1 hB1 hz1 hn hk hR hF hFl hSB hSz hS hcapS hB eg
  go_enter Tryz.func109, Tryz.ntmps109
  go_wp2_with fail
  refine C1'.out.mono ?_
  rintro e w2 ⟨rfl, h2, hb2⟩
  go_wp2_with fail
  refine (C2.out _ h2 hb2).mono ?_
  rintro e w3 ⟨rfl, hb3, d', h3, hs3⟩
  go_wp2_with fail
  refine (C3.out _ _ h3 hs3 hb3).mono ?_
  rintro e w4 ⟨rfl, hc4, hb4⟩
  clear C1' C2 C3 h2 h3 hs3 hb2 hb3
  go_wp2
  go_ret
  exact ⟨rfl, hb4⟩
end Go.Proofs.YtnpgmekgmelamaaGreat
