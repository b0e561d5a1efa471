/-
  What is proved: what slices.Sort's choosePivot returns on more than twelve bytes in memory; nothing that lay there is changed.
  What is proved: what slices.Sort's partition does to bytes in memory. Nothing else that lay in memory is changed.
  What is proved: what slices.Sort's partitionEqual does to bytes in memory. Nothing else that lay in memory is changed.
  What is proved: what slices.Sort's breakPatterns does to bytes in memory. Nothing else that lay in memory is changed.
-/
import Derived.Test.YtnpgmekgmelamaaGreatDfMed
import Derived.Sort.LotD4
import Derived.Sort.LotC
import Derived.Deep.CutBlock
import Derived.Deep.DeepCutAuto
import Derived.Test.YtnpgmekgmelamaaGreatShelfX
import Derived.Sort.Walk7
namespace Go.Proofs.YtnpgmekgmelamaaGreat
open Go.RowKit Go.Shelf Go.Sort

theorem med_below {blk off sb s : Nat} {d : Array UInt8} {w0 w1 W : World} (h : MedAt blk off sb d s w1 W) (hb : RowKit.Below w0.heap.size w0 w1) (hs : w0.heap.size ≤ sb) : RowKit.Below w0.heap.size w0 W := by
  refine ⟨by rw [h.only.os, hb.os], by rw [h.only.tape, hb.tape], by rw [h.only.output, hb.output], Nat.le_trans hb.size h.only.size, fun k hk => ?_⟩
  rw [h.only.block k (by have := hb.size; omega) (by omega), hb.block k hk]

set_option maxRecDepth 100000 in
set_option maxHeartbeats 4000000 in
/-- slices.choosePivotOrdered. -/
theorem choose_any (blk off cap a b : Nat) (d : Array UInt8) (w : World) (hH : Holds encB w blk off d) (hlt : blk < w.heap.size) (hab : a + 12 < b) (hb : b ≤ d.size) (hsz : d.size ≤ 1000000) :
    Calls Tryz.prog 168 #[.slice (some ⟨blk, off, none⟩) d.size cap, .int .i64 (a : Int), .int .i64 (b : Int)] w fun e w' => e = .returned (.tuple #[.int .i64 ((choosePivot ltB d a b).1 : Int), .int .i64 (hintCode (choosePivot ltB d a b).2)]) ∧ RowKit.Below w.heap.size w w' := by
  obtain ⟨w1, hw1⟩ : ∃ w1, w.alloc (.cells #[.int .i64 0] 3) = w1 := ⟨_, rfl⟩
  have hb1 : RowKit.Below w.heap.size w w1 := by rw [← hw1]; exact (RowKit.Below.refl _ w).alloc (Nat.le_refl _) _
  have hz1 : w1.heap.size = w.heap.size + 1 := by rw [← hw1]; exact World.size_alloc ..
  have hM : MedAt blk off w.heap.size d 0 w1 w1 := by
    refine ⟨fun k hk => ?_, ⟨?_, ?_⟩, OnlyAt.refl _ _ _⟩
    · obtain ⟨h1, h2⟩ := hH k hk
      exact ⟨by rw [World.cell?_of_block (w := w) (hb1.block blk hlt)]; exact h1, by rw [World.frozen?_of_block (w := w) (hb1.block blk hlt)]; exact h2⟩
    · rw [← hw1]; simp
    · rw [← hw1]
      have := World.alloc_heap_new w (.cells #[.int .i64 0] 3)
      unfold World.frozen?
      dsimp only
      rw [this]
      rfl
  have hne : blk ≠ w.heap.size := by omega
  have CA := Lib.hid fun (W : World) (x s : Nat) (h : MedAt blk off w.heap.size d s w1 W) (h1 : 1 ≤ x) (h2 : x + 1 < d.size) (hs : s ≤ 900) => adjacent_any blk off cap x w.heap.size s d w1 W h (by omega) hne h1 h2 hs hsz
  have CM := Lib.hid fun (W : World) (x y z s : Nat) (h : MedAt blk off w.heap.size d s w1 W) (hx : x < d.size) (hy : y < d.size) (hzz : z < d.size) (hs : s ≤ 900) => median_any blk off cap x y z w.heap.size s d w1 W h (by omega) hne hx hy hzz hs hsz
  rw [choosePivot_eq]
  dsimp only
  obtain ⟨l, hl⟩ : ∃ l, b - a = l := ⟨_, rfl⟩
  obtain ⟨q, hq⟩ : ∃ q, l / 4 = q := ⟨_, rfl⟩
  obtain ⟨q2, hq2⟩ : ∃ q2, q * 2 = q2 := ⟨_, rfl⟩
  obtain ⟨q3, hq3⟩ : ∃ q3, q * 3 = q3 := ⟨_, rfl⟩
  obtain ⟨i, hi⟩ : ∃ i, a + q = i := ⟨_, rfl⟩
  obtain ⟨j, hj⟩ : ∃ j, a + q2 = j := ⟨_, rfl⟩
  obtain ⟨k, hk⟩ : ∃ k, a + q3 = k := ⟨_, rfl⟩
  have HR : Hid (rawPivot ltB d a b = if l ≥ 50 then median ltB d (medianAdjacent ltB d i 0).1 (medianAdjacent ltB d j (medianAdjacent ltB d i 0).2).1
        (medianAdjacent ltB d k (medianAdjacent ltB d j (medianAdjacent ltB d i 0).2).2).1
        (medianAdjacent ltB d k (medianAdjacent ltB d j (medianAdjacent ltB d i 0).2).2).2
      else median ltB d i j k 0) := Lib.hid (by
    unfold rawPivot
    rw [hl, if_pos (by omega), hq, Nat.mul_one, hi, hq2, hj, hq3, hk])
  obtain ⟨RP, hRP⟩ : ∃ RP, rawPivot ltB d a b = RP := ⟨_, rfl⟩
  rw [hRP] at HR
  rw [hRP]
  have e1 : (b : Int) - (a : Int) = (l : Int) := by omega
  have e2 : IntKind.i64.wrap (l : Int) = (l : Int) := by rw [IntKind.wrap_i64]; omega
  have e3 : (l : Int).tdiv 4 = (q : Int) := by
    have : (l : Int).tdiv 4 = (l : Int) / 4 := Int.tdiv_eq_ediv_of_nonneg (by omega)
    omega
  have e4 : (q : Int) * 2 = (q2 : Int) := by omega
  have e5 : (q : Int) * 3 = (q3 : Int) := by omega
  have e6 : (a : Int) + (q : Int) = (i : Int) := by omega
  have e7 : (a : Int) + (q2 : Int) = (j : Int) := by omega
  have e8 : (a : Int) + (q3 : Int) = (k : Int) := by omega
  have f1 : IntKind.i64.wrap (q : Int) = (q : Int) := by rw [IntKind.wrap_i64]; omega
  have f2 : IntKind.i64.wrap (q2 : Int) = (q2 : Int) := by rw [IntKind.wrap_i64]; omega
  have f3 : IntKind.i64.wrap (q3 : Int) = (q3 : Int) := by rw [IntKind.wrap_i64]; omega
  have f4 : IntKind.i64.wrap (i : Int) = (i : Int) := by rw [IntKind.wrap_i64]; omega
  have f5 : IntKind.i64.wrap (j : Int) = (j : Int) := by rw [IntKind.wrap_i64]; omega
  have f6 : IntKind.i64.wrap (k : Int) = (k : Int) := by rw [IntKind.wrap_i64]; omega
  have g1 : 1 ≤ i := by omega
  have g2 : i + 1 < d.size := by omega
  have g3 : 1 ≤ j := by omega
  have g4 : j + 1 < d.size := by omega
  have g5 : 1 ≤ k := by omega
  have g6 : k + 1 < d.size := by omega
  have l8 : (8 : Int) ≤ (l : Int) := by omega
  obtain ⟨n, hn⟩ : ∃ n, d.size = n := ⟨_, rfl⟩
  rw [hn] at CA CM g2 g4 g6
  rw [hn]
  subst hw1
  clear hl hq hq2 hq3 hi hj hk hH hne hRP hb hn hsz hab
  by_cases h50 : 50 ≤ l
  · have z50 : (50 : Int) ≤ (l : Int) := by omega
    have HR2 : Hid (median ltB d (medianAdjacent ltB d i 0).1 (medianAdjacent ltB d j (medianAdjacent ltB d i 0).2).1
        (medianAdjacent ltB d k (medianAdjacent ltB d j (medianAdjacent ltB d i 0).2).2).1
        (medianAdjacent ltB d k (medianAdjacent ltB d j (medianAdjacent ltB d i 0).2).2).2 = RP) := Lib.hid (by rw [HR.out, if_pos h50])
    clear HR h50
    go_enter Tryz.func168, Tryz.ntmps168
    go_wp2_with fail
    refine (CA.out _ _ _ hM g1 g2 (by decide)).mono ?_
    rintro e w2 ⟨m1, s1, rfl, r1, hm1, hs1, hM1⟩
    go_wp2_with fail
    refine (CA.out _ _ _ hM1 g3 g4 (by omega)).mono ?_
    rintro e w3 ⟨m2, s2, rfl, r2, hm2, hs2, hM2⟩
    go_wp2_with fail
    refine (CA.out _ _ _ hM2 g5 g6 (by omega)).mono ?_
    rintro e w4 ⟨m3, s3, rfl, r3, hm3, hs3, hM3⟩
    go_wp2_with fail
    refine (CM.out _ _ _ _ _ hM3 hm1 hm2 hm3 (by omega)).mono ?_
    rintro e w5 ⟨m, s, rfl, r4, hm, hs, hM5⟩
    have HRP : Hid (RP = (m, s)) := Lib.hid (by rw [← HR2.out, r1]; dsimp only; rw [r2]; dsimp only; rw [r3]; dsimp only; rw [r4])
    have hbw := med_below hM5 hb1 (Nat.le_refl _)
    obtain ⟨kc, kf⟩ := hM5.cnt
    clear HR2 CA CM r1 r2 r3 r4 hM hM1 hM2 hM3 hM5 hb1
    by_cases h0 : s = 0
    · have z0 : (s : Int) = 0 := by omega
      have HV : Hid ((RP.1 : Int) = (m : Int) ∧ hintCode (hintOf RP.2) = 1) := Lib.hid (by rw [HRP.out, h0]; exact ⟨rfl, rfl⟩)
      subst h0
      clear HRP
      go_wp2
      refine bodyPost_ret (v := .tuple #[.int .i64 (m : Int), .int .i64 1]) (by simp [results, Tryz.results168, go_sem]) rfl ?_
      exact ⟨by rw [HV.out.1, HV.out.2], hbw⟩
    · by_cases h12 : s = 12
      · have HV : Hid ((RP.1 : Int) = (m : Int) ∧ hintCode (hintOf RP.2) = 2) := Lib.hid (by rw [HRP.out, h12]; exact ⟨rfl, rfl⟩)
        subst h12
        clear HRP
        go_wp2
        refine bodyPost_ret (v := .tuple #[.int .i64 (m : Int), .int .i64 2]) (by simp [results, Tryz.results168, go_sem]) rfl ?_
        exact ⟨by rw [HV.out.1, HV.out.2], hbw⟩
      · have HV : Hid ((RP.1 : Int) = (m : Int) ∧ hintCode (hintOf RP.2) = 0) := Lib.hid (by
          rw [HRP.out]
          unfold hintOf
          rw [if_neg h0, if_neg h12]
          exact ⟨rfl, rfl⟩)
        have z0 : ¬ (s : Int) = 0 := by omega
        have z12 : ¬ (s : Int) = 12 := by omega
        have z0' : ((s : Int) == 0) = false := by simpa using z0
        have z12' : ((s : Int) == 12) = false := by simpa using z12
        clear HRP h0 h12
        go_wp2
        refine bodyPost_ret (v := .tuple #[.int .i64 (m : Int), .int .i64 0]) (by simp [results, Tryz.results168, go_sem]) rfl ?_
        exact ⟨by rw [HV.out.1, HV.out.2], hbw⟩
  · have z50 : ¬ (50 : Int) ≤ (l : Int) := by omega
    have HR2 : Hid (median ltB d i j k 0 = RP) := Lib.hid (by rw [HR.out, if_neg (by omega)])
    clear HR h50
    go_enter Tryz.func168, Tryz.ntmps168
    go_wp2_with fail
    refine (CM.out _ _ _ _ _ hM (by omega) (by omega) (by omega) (by decide)).mono ?_
    rintro e w5 ⟨m, s, rfl, r4, hm, hs, hM5⟩
    have HRP : Hid (RP = (m, s)) := Lib.hid (by rw [← HR2.out, r4])
    have hbw := med_below hM5 hb1 (Nat.le_refl _)
    obtain ⟨kc, kf⟩ := hM5.cnt
    clear HR2 CA CM r4 hM hM5 hb1
    by_cases h0 : s = 0
    · have z0 : (s : Int) = 0 := by omega
      have HV : Hid ((RP.1 : Int) = (m : Int) ∧ hintCode (hintOf RP.2) = 1) := Lib.hid (by rw [HRP.out, h0]; exact ⟨rfl, rfl⟩)
      subst h0
      clear HRP
      go_wp2
      refine bodyPost_ret (v := .tuple #[.int .i64 (m : Int), .int .i64 1]) (by simp [results, Tryz.results168, go_sem]) rfl ?_
      exact ⟨by rw [HV.out.1, HV.out.2], hbw⟩
    · by_cases h12 : s = 12
      · have HV : Hid ((RP.1 : Int) = (m : Int) ∧ hintCode (hintOf RP.2) = 2) := Lib.hid (by rw [HRP.out, h12]; exact ⟨rfl, rfl⟩)
        subst h12
        clear HRP
        go_wp2
        refine bodyPost_ret (v := .tuple #[.int .i64 (m : Int), .int .i64 2]) (by simp [results, Tryz.results168, go_sem]) rfl ?_
        exact ⟨by rw [HV.out.1, HV.out.2], hbw⟩
      · have HV : Hid ((RP.1 : Int) = (m : Int) ∧ hintCode (hintOf RP.2) = 0) := Lib.hid (by
          rw [HRP.out]
          unfold hintOf
          rw [if_neg h0, if_neg h12]
          exact ⟨rfl, rfl⟩)
        have z0 : ¬ (s : Int) = 0 := by omega
        have z12 : ¬ (s : Int) = 12 := by omega
        have z0' : ((s : Int) == 0) = false := by simpa using z0
        have z12' : ((s : Int) == 12) = false := by simpa using z12
        clear HRP h0 h12
        go_wp2
        refine bodyPost_ret (v := .tuple #[.int .i64 (m : Int), .int .i64 0]) (by simp [results, Tryz.results168, go_sem]) rfl ?_
        exact ⟨by rw [HV.out.1, HV.out.2], hbw⟩
end Go.Proofs.YtnpgmekgmelamaaGreat

namespace Go.Proofs.YtnpgmekgmelamaaGreat
open Go.RowKit Go.Shelf Go.Sort

theorem scanUp_go (p : UInt8 → Bool) (d : Array UInt8) (j i : Nat) (h : i ≤ j) (hp : p d[i]! = true) : scanUp p d j i = scanUp p d j (i + 1) := by
  rw [scanUp.eq_def p d j i, if_pos (by simp [h, hp])]
theorem scanUp_stop (p : UInt8 → Bool) (d : Array UInt8) (j i : Nat) (h : ¬ i ≤ j ∨ p d[i]! = false) : scanUp p d j i = i := by
  rw [scanUp.eq_def, if_neg (by
    rcases h with h | h
    · simp [h]
    · simp [h])]
theorem scanDown_go (p : UInt8 → Bool) (d : Array UInt8) (i j : Nat) (h : i ≤ j + 1) (hp : p d[j + 1]! = true) : scanDown p d i (j + 1) = scanDown p d i j := by
  rw [scanDown, if_pos (by simp [h, hp])]
theorem scanDown_stop (p : UInt8 → Bool) (d : Array UInt8) (i j : Nat) (h : ¬ i ≤ j ∨ p d[j]! = false) : scanDown p d i j = j := by
  cases j with
  | zero => rfl
  | succ j =>
    rw [scanDown, if_neg (by
      rcases h with h | h
      · simp [h]
      · simp [h])]

theorem partLoop_stop (a i j i2 j2 : Nat) (d : Array UInt8) (h1 : scanUp (fun x => ltB x d[a]!) d j i = i2) (h2 : scanDown (fun x => !ltB x d[a]!) d i2 j = j2) (h : i2 > j2) : partLoop ltB a i j d = (j2, d) := by
  rw [partLoop.eq_def]
  dsimp only
  rw [h1, h2, if_pos h]
theorem partLoop_go (a i j i2 j2 : Nat) (d : Array UInt8) (h1 : scanUp (fun x => ltB x d[a]!) d j i = i2) (h2 : scanDown (fun x => !ltB x d[a]!) d i2 j = j2) (h : ¬ i2 > j2) : partLoop ltB a i j d = partLoop ltB a (i2 + 1) (j2 - 1) (swp d i2 j2) := by
  have g1 := scanUp_ge (fun x => ltB x d[a]!) d j i
  have g2 := scanDown_le (fun x => !ltB x d[a]!) d i2 j
  rw [h1] at g1
  rw [h2] at g2
  rw [partLoop.eq_def]
  dsimp only
  rw [h1, h2, if_neg h, dif_pos (guard_of g1 g2 h)]

set_option maxRecDepth 100000 in
set_option maxHeartbeats 4000000 in
/-- slices.partitionOrdered. -/
theorem part_any (blk off cap a b pivot : Nat) (d : Array UInt8) (w : World) (hH : Holds encB w blk off d) (ha : a ≤ pivot) (hp : pivot < b) (hb : b ≤ d.size) (hsz : d.size ≤ 1000000) :
    Calls Tryz.prog 173 #[.slice (some ⟨blk, off, none⟩) d.size cap, .int .i64 (a : Int), .int .i64 (b : Int), .int .i64 (pivot : Int)] w fun e w' => e = .returned (.tuple #[.int .i64 ((partition ltB d a b pivot).1 : Int), .bool (partition ltB d a b pivot).2.1]) ∧ Holds encB w' blk off (partition ltB d a b pivot).2.2 ∧ OnlyAt blk w.heap.size w w' := by
  have C := Lib.hid less_any
  obtain ⟨n, hn⟩ : ∃ n, d.size = n := ⟨_, rfl⟩
  have HK : Hid (Holds encB w blk off d) := hH
  have HN : Hid (d.size = n) := hn
  have HB : Hid (OnlyAt blk w.heap.size w w) := Lib.hid (OnlyAt.refl _ _ _)
  rw [hn] at hb hsz
  rw [hn]
  clear hH hn
  have ci := (HK.out a (by have := HN.out; omega)).1
  have cj := (HK.out pivot (by have := HN.out; omega)).1
  have fi := (HK.out a (by have := HN.out; omega)).2
  have fj := (HK.out pivot (by have := HN.out; omega)).2
  obtain ⟨xi, hxi⟩ : ∃ x, d[a]! = x := ⟨_, rfl⟩
  obtain ⟨xj, hxj⟩ : ∃ x, d[pivot]! = x := ⟨_, rfl⟩
  rw [hxi] at ci
  rw [hxj] at cj
  unfold encB at ci cj
  have cs : (w.setCell ⟨blk, off + a, none⟩ (.int .u8 (xj.toNat : Int))).cell? ⟨blk, off + pivot, none⟩ = some (.int .u8 (xj.toNat : Int)) := by
    by_cases e : a = pivot
    · rw [e] at ci ⊢
      exact World.cell?_setCell_same _ _ _ ci
    · rw [World.cell?_setCell_other _ _ _ _ (fun e2 => e (by injection e2 with _ e2; omega))]
      exact cj
  have HW : Hid (Holds encB ((w.setCell ⟨blk, off + a, none⟩ (.int .u8 (xj.toNat : Int))).setCell ⟨blk, off + pivot, none⟩ (.int .u8 (xi.toNat : Int))) blk off (swp d a pivot)) := Lib.hid (by
    have := swap_holds2 HK.out (i := a) (j := pivot) (by have := HN.out; omega) (by have := HN.out; omega)
    rw [hxi, hxj] at this
    exact this)
  have HWB : Hid (OnlyAt blk w.heap.size w ((w.setCell ⟨blk, off + a, none⟩ (.int .u8 (xj.toNat : Int))).setCell ⟨blk, off + pivot, none⟩ (.int .u8 (xi.toNat : Int)))) := Lib.hid ((HB.out.set (off + a) _).set (off + pivot) _)
  have ii0 : (0 : Int) ≤ (a : Int) := by omega
  have ii1 : (a : Int) < (n : Int) := by omega
  have jj0 : (0 : Int) ≤ (pivot : Int) := by omega
  have jj1 : (pivot : Int) < (n : Int) := by omega
  clear hxi hxj HK HB
  obtain ⟨d1, hd1⟩ : ∃ d1, swp d a pivot = d1 := ⟨_, rfl⟩
  rw [hd1] at HW
  have HS : Hid (d1.size = n) := Lib.hid (by rw [← hd1, size_swp]; exact HN.out)
  obtain ⟨i0, hi0⟩ : ∃ i0, a + 1 = i0 := ⟨_, rfl⟩
  obtain ⟨j0, hj0⟩ : ∃ j0, b - 1 = j0 := ⟨_, rfl⟩
  have e1 : (a : Int) + 1 = (i0 : Int) := by omega
  have e2 : (b : Int) - 1 = (j0 : Int) := by omega
  have e3 : IntKind.i64.wrap (i0 : Int) = (i0 : Int) := by rw [IntKind.wrap_i64]; omega
  have e4 : IntKind.i64.wrap (j0 : Int) = (j0 : Int) := by rw [IntKind.wrap_i64]; omega
  have HDt : Hid (∀ i j, scanUp (fun x => ltB x d1[a]!) d1 j0 i0 = i → scanDown (fun x => !ltB x d1[a]!) d1 i j0 = j → i > j → partition ltB d a b pivot = (j, true, swp d1 j a)) := Lib.hid (fun i j h1 h2 h3 => by
    unfold partition
    dsimp only
    rw [hd1, hj0, hi0, h1, h2, if_pos h3])
  have HDf : Hid (∀ i j, scanUp (fun x => ltB x d1[a]!) d1 j0 i0 = i → scanDown (fun x => !ltB x d1[a]!) d1 i j0 = j → ¬ i > j → partition ltB d a b pivot = ((partLoop ltB a (i + 1) (j - 1) (swp d1 i j)).1, false, swp (partLoop ltB a (i + 1) (j - 1) (swp d1 i j)).2 (partLoop ltB a (i + 1) (j - 1) (swp d1 i j)).1 a)) := Lib.hid (fun i j h1 h2 h3 => by
    unfold partition
    dsimp only
    rw [hd1, hj0, hi0, h1, h2, if_neg h3])
  obtain ⟨P, hP⟩ : ∃ P, partition ltB d a b pivot = P := ⟨_, rfl⟩
  rw [hP] at HDt HDf
  rw [hP]
  clear hP hd1
  go_enter Tryz.func173, Tryz.ntmps173
  go_wp2_with fail
  go_region
  · obtain ⟨W1, hW1⟩ : ∃ W1, ((w.setCell ⟨blk, off + a, none⟩ (.int .u8 (xj.toNat : Int))).setCell ⟨blk, off + pivot, none⟩ (.int .u8 (xi.toNat : Int))).drew = W1 := ⟨_, rfl⟩
    have HK : Hid (Holds encB W1 blk off d1) := Lib.hid (by rw [← hW1]; exact HW.out)
    have HB : Hid (OnlyAt blk w.heap.size w W1) := Lib.hid (by rw [← hW1]; exact HWB.out.drew)
    rw [hW1]
    clear hW1 HW HWB cs ci cj fi fj jj0 jj1
    go_upto_block 0 with fail
    go_cut [10] from 30 to 45 (fun s wx => s = .int .i64 ((scanUp (fun x => ltB x d1[a]!) d1 j0 i0 : Nat) : Int) ∧ Hid (Holds encB wx blk off d1) ∧ Hid (OnlyAt blk w.heap.size w wx))
    case first =>
      go_wp2_with fail
      go_loopg [10] (j0 + 1 - i0) (fun gk s wr => ∃ i : Nat, s = .int .i64 i ∧ a < i ∧ i ≤ j0 + 2 ∧ j0 + 1 - i ≤ gk ∧ Hid (Holds encB wr blk off d1) ∧ Hid (OnlyAt blk w.heap.size w wr) ∧ Hid (scanUp (fun x => ltB x d1[a]!) d1 j0 i = scanUp (fun x => ltB x d1[a]!) d1 j0 i0))
      case atStart => exact ⟨i0, by go_num, by omega, by omega, Nat.le_refl _, HK, HB, Lib.hid rfl⟩
      case round =>
        clear HK HB
        obtain ⟨i, rfl, hai, hij1, hg, HK, HB, HO⟩ := hrel
        by_cases hij : i ≤ j0
        · have hijz : (i : Int) ≤ (j0 : Int) := by omega
          have hd : decide ((i : Int) ≤ (j0 : Int)) = true := decide_eq_true hijz
          have ci := (HK.out i (by have := HS.out; omega)).1
          have ca := (HK.out a (by have := HS.out; omega)).1
          obtain ⟨x, hx⟩ : ∃ x, d1[i]! = x := ⟨_, rfl⟩
          obtain ⟨y, hy⟩ : ∃ y, d1[a]! = y := ⟨_, rfl⟩
          rw [hx] at ci
          rw [hy] at ca
          unfold encB at ci ca
          have i0' : (0 : Int) ≤ (i : Int) := by omega
          have i1' : (i : Int) < (n : Int) := by omega
          have hxl := Lib.hid hx
          have hyl := Lib.hid hy
          clear hx hy
          obtain ⟨g', rfl⟩ : ∃ g', gk = g' + 1 := ⟨gk - 1, by omega⟩
          have C1 := C.out x y
          cases hlv : ltB x y with
          | true =>
            have HP : Hid (scanUp (fun x => ltB x d1[a]!) d1 j0 (i + 1) = scanUp (fun x => ltB x d1[a]!) d1 j0 i0) := Lib.hid (by rw [← HO.out, scanUp_go _ _ _ _ hij (by rw [hxl.out, hyl.out, hlv] <;> rfl)])
            have C2 : Hid (∀ w, Calls Tryz.prog 171 #[.int .u8 (x.toNat : Int), .int .u8 (y.toNat : Int)] w fun e w' => e = .returned (.bool true) ∧ w' = w) := Lib.hid (fun w => by have := C.out x y w; rwa [hlv] at this)
            clear hlv C1
            go_wp2_with fail
            go_quiet (first | (go_at_call 171; refine Calls.quiet_of_same (C2.out _)))
            go_wp2
            go_roundg g'
            case measure => omega
            case rel => exact ⟨i + 1, by go_num, by omega, by omega, by omega, Lib.hid (holds_drewN HK.out _), Lib.hid (only_drewN HB.out _), HP⟩
          | false =>
            have HP : Hid (i = scanUp (fun x => ltB x d1[a]!) d1 j0 i0) := Lib.hid (by rw [← HO.out, scanUp_stop _ _ _ _ (.inr (by rw [hxl.out, hyl.out, hlv] <;> rfl))])
            have C2 : Hid (∀ w, Calls Tryz.prog 171 #[.int .u8 (x.toNat : Int), .int .u8 (y.toNat : Int)] w fun e w' => e = .returned (.bool false) ∧ w' = w) := Lib.hid (fun w => by have := C.out x y w; rwa [hlv] at this)
            clear hlv C1
            go_wp2_with fail
            go_quiet (first | (go_at_call 171; refine Calls.quiet_of_same (C2.out _)))
            go_wp2
            go_meet
            exact ⟨by rw [← HP.out], Lib.hid (holds_drewN HK.out _), Lib.hid (only_drewN HB.out _)⟩
        · have hijz : ¬ (i : Int) ≤ (j0 : Int) := by omega
          have hd : decide ((i : Int) ≤ (j0 : Int)) = false := decide_eq_false hijz
          have HP : Hid (i = scanUp (fun x => ltB x d1[a]!) d1 j0 i0) := Lib.hid (by rw [← HO.out, scanUp_stop _ _ _ _ (.inl hij)])
          go_wp2_with fail
          go_quiet (fail)
          go_wp2
          go_meet
          exact ⟨by rw [← HP.out], Lib.hid (holds_drewN HK.out _), Lib.hid (only_drewN HB.out _)⟩
    case rest =>
      clear HK HB
      obtain ⟨rfl, HK, HB⟩ := hcut
      obtain ⟨i1, hi1⟩ : ∃ i1, scanUp (fun x => ltB x d1[a]!) d1 j0 i0 = i1 := ⟨_, rfl⟩
      have hsu := scanUp_spec (fun x => ltB x d1[a]!) d1 j0 _ i0 rfl
      rw [hi1] at hsu
      have hi1a : a < i1 := by omega
      have hi1b : i1 ≤ j0 + 1 := hsu.2.1 (by omega)
      have HI1 := Lib.hid hi1
      rw [hi1]
      clear hsu hi1
      go_upto_block 2 with fail
      go_cut [11] from 46 to 62 (fun s wx => s = .int .i64 ((scanDown (fun x => !ltB x d1[a]!) d1 i1 j0 : Nat) : Int) ∧ Hid (Holds encB wx blk off d1) ∧ Hid (OnlyAt blk w.heap.size w wx))
      case first =>
        go_wp2_with fail
        go_loopg [11] (j0 + 1) (fun gk s wr => ∃ j : Nat, s = .int .i64 j ∧ j ≤ j0 ∧ i1 ≤ j + 2 ∧ j + 1 ≤ gk ∧ Hid (Holds encB wr blk off d1) ∧ Hid (OnlyAt blk w.heap.size w wr) ∧ Hid (scanDown (fun x => !ltB x d1[a]!) d1 i1 j = scanDown (fun x => !ltB x d1[a]!) d1 i1 j0))
        case atStart => exact ⟨j0, by go_num, Nat.le_refl _, by omega, Nat.le_refl _, HK, HB, Lib.hid rfl⟩
        case round =>
          clear HK HB
          obtain ⟨j, rfl, hjj, hij1, hg, HK, HB, HO⟩ := hrel
          by_cases hij : i1 ≤ j
          · have hijz : (i1 : Int) ≤ (j : Int) := by omega
            have hd : decide ((i1 : Int) ≤ (j : Int)) = true := decide_eq_true hijz
            obtain ⟨jp, rfl⟩ : ∃ jp, j = jp + 1 := ⟨j - 1, by omega⟩
            have cj := (HK.out (jp + 1) (by have := HS.out; omega)).1
            have ca := (HK.out a (by have := HS.out; omega)).1
            obtain ⟨x, hx⟩ : ∃ x, d1[jp + 1]! = x := ⟨_, rfl⟩
            obtain ⟨y, hy⟩ : ∃ y, d1[a]! = y := ⟨_, rfl⟩
            rw [hx] at cj
            rw [hy] at ca
            unfold encB at cj ca
            obtain ⟨q, hq⟩ : ∃ q, jp + 1 = q := ⟨_, rfl⟩
            have q1 : (jp : Int) + 1 = (q : Int) := by omega
            have q2 : (q : Int) - 1 = (jp : Int) := by omega
            have q3 : IntKind.i64.wrap (jp : Int) = (jp : Int) := by rw [IntKind.wrap_i64]; omega
            rw [hq] at cj
            have j0' : (0 : Int) ≤ (q : Int) := by omega
            have j1' : (q : Int) < (n : Int) := by omega
            rw [hq] at hijz hd
            rw [show ((jp + 1 : Nat) : Int) = (q : Int) by omega]
            have hxl := Lib.hid hx
            have hyl := Lib.hid hy
            clear hx hy
            obtain ⟨g', rfl⟩ : ∃ g', gk = g' + 1 := ⟨gk - 1, by omega⟩
            cases hlv : ltB x y with
            | false =>
              have HP : Hid (scanDown (fun x => !ltB x d1[a]!) d1 i1 jp = scanDown (fun x => !ltB x d1[a]!) d1 i1 j0) := Lib.hid (by rw [← HO.out, scanDown_go _ _ _ _ hij (by rw [hxl.out, hyl.out, hlv] <;> rfl)])
              have C2 : Hid (∀ w, Calls Tryz.prog 171 #[.int .u8 (x.toNat : Int), .int .u8 (y.toNat : Int)] w fun e w' => e = .returned (.bool false) ∧ w' = w) := Lib.hid (fun w => by have := C.out x y w; rwa [hlv] at this)
              have hij' : i1 ≤ jp + 2 := by omega
              clear hlv hq
              go_wp2_with fail
              go_quiet (first | (go_at_call 171; refine Calls.quiet_of_same (C2.out _)))
              go_wp2
              go_roundg g'
              case measure => omega
              case rel => exact ⟨jp, by go_num, by omega, hij', by omega, Lib.hid (holds_drewN HK.out _), Lib.hid (only_drewN HB.out _), HP⟩
            | true =>
              have HP : Hid (q = scanDown (fun x => !ltB x d1[a]!) d1 i1 j0) := Lib.hid (by rw [← HO.out, scanDown_stop _ _ _ _ (.inr (by rw [hxl.out, hyl.out, hlv] <;> rfl)), hq])
              have C2 : Hid (∀ w, Calls Tryz.prog 171 #[.int .u8 (x.toNat : Int), .int .u8 (y.toNat : Int)] w fun e w' => e = .returned (.bool true) ∧ w' = w) := Lib.hid (fun w => by have := C.out x y w; rwa [hlv] at this)
              clear hlv hq
              go_wp2_with fail
              go_quiet (first | (go_at_call 171; refine Calls.quiet_of_same (C2.out _)))
              go_wp2
              go_meet
              exact ⟨by rw [← HP.out], Lib.hid (holds_drewN HK.out _), Lib.hid (only_drewN HB.out _)⟩
          · have hijz : ¬ (i1 : Int) ≤ (j : Int) := by omega
            have hd : decide ((i1 : Int) ≤ (j : Int)) = false := decide_eq_false hijz
            have HP : Hid (j = scanDown (fun x => !ltB x d1[a]!) d1 i1 j0) := Lib.hid (by rw [← HO.out, scanDown_stop _ _ _ _ (.inl hij)])
            go_wp2_with fail
            go_quiet (fail)
            go_wp2
            go_meet
            exact ⟨by rw [← HP.out], Lib.hid (holds_drewN HK.out _), Lib.hid (only_drewN HB.out _)⟩
      case rest =>
        clear HK HB
        obtain ⟨rfl, HK, HB⟩ := hcut
        obtain ⟨j1, hj1⟩ : ∃ j1, scanDown (fun x => !ltB x d1[a]!) d1 i1 j0 = j1 := ⟨_, rfl⟩
        have hsd := scanDown_spec (fun x => !ltB x d1[a]!) d1 i1 j0
        rw [hj1] at hsd
        have hj1a : j1 ≤ j0 := hsd.1
        have hj1b : i1 ≤ j1 + 1 := hsd.2.1 hi1b
        have HJ1 := Lib.hid hj1
        rw [hj1]
        clear hsd hj1
        by_cases hgt : j1 < i1
        · have hgtz : (j1 : Int) < (i1 : Int) := by omega
          have HP := Lib.hid (HDt.out i1 j1 HI1.out HJ1.out hgt)
          clear HDt HDf
          have ci := (HK.out j1 (by have := HS.out; omega)).1
          have cj := (HK.out a (by have := HS.out; omega)).1
          have fi := (HK.out j1 (by have := HS.out; omega)).2
          have fj := (HK.out a (by have := HS.out; omega)).2
          obtain ⟨xi, hxi⟩ : ∃ x, d1[j1]! = x := ⟨_, rfl⟩
          obtain ⟨xj, hxj⟩ : ∃ x, d1[a]! = x := ⟨_, rfl⟩
          rw [hxi] at ci
          rw [hxj] at cj
          unfold encB at ci cj
          have cs : (wc.setCell ⟨blk, off + j1, none⟩ (.int .u8 (xj.toNat : Int))).cell? ⟨blk, off + a, none⟩ = some (.int .u8 (xj.toNat : Int)) := by
            by_cases e : j1 = a
            · rw [e] at ci ⊢
              exact World.cell?_setCell_same _ _ _ ci
            · rw [World.cell?_setCell_other _ _ _ _ (fun e2 => e (by injection e2 with _ e2; omega))]
              exact cj
          have HW : Hid (Holds encB ((wc.setCell ⟨blk, off + j1, none⟩ (.int .u8 (xj.toNat : Int))).setCell ⟨blk, off + a, none⟩ (.int .u8 (xi.toNat : Int))) blk off (swp d1 j1 a)) := Lib.hid (by
            have := swap_holds2 HK.out (i := j1) (j := a) (by have := HS.out; omega) (by have := HS.out; omega)
            rw [hxi, hxj] at this
            exact this)
          have HWB : Hid (OnlyAt blk w.heap.size w ((wc.setCell ⟨blk, off + j1, none⟩ (.int .u8 (xj.toNat : Int))).setCell ⟨blk, off + a, none⟩ (.int .u8 (xi.toNat : Int)))) := Lib.hid ((HB.out.set (off + j1) _).set (off + a) _)
          have ii0 : (0 : Int) ≤ (j1 : Int) := by omega
          have ii1 : (j1 : Int) < (n : Int) := by omega
          have jj0 : (0 : Int) ≤ (a : Int) := by omega
          have jj1 : (a : Int) < (n : Int) := by omega
          clear hxi hxj HK HB
          go_wp2_with fail
          go_region
          all_goals
            go_wp2
            refine bodyPost_ret (v := .tuple #[.int .i64 (j1 : Int), .bool true]) (by simp [results, Tryz.results173, go_sem]) rfl ?_
            rw [HP.out]
            exact ⟨rfl, HW.out, HWB.out.drew⟩
        · have hgtz : ¬ (j1 : Int) < (i1 : Int) := by omega
          have HP := Lib.hid (HDf.out i1 j1 HI1.out HJ1.out (by omega))
          clear HDt HDf
          have ci := (HK.out i1 (by have := HS.out; omega)).1
          have cj := (HK.out j1 (by have := HS.out; omega)).1
          have fi := (HK.out i1 (by have := HS.out; omega)).2
          have fj := (HK.out j1 (by have := HS.out; omega)).2
          obtain ⟨xi, hxi⟩ : ∃ x, d1[i1]! = x := ⟨_, rfl⟩
          obtain ⟨xj, hxj⟩ : ∃ x, d1[j1]! = x := ⟨_, rfl⟩
          rw [hxi] at ci
          rw [hxj] at cj
          unfold encB at ci cj
          have cs : (wc.setCell ⟨blk, off + i1, none⟩ (.int .u8 (xj.toNat : Int))).cell? ⟨blk, off + j1, none⟩ = some (.int .u8 (xj.toNat : Int)) := by
            by_cases e : i1 = j1
            · rw [e] at ci ⊢
              exact World.cell?_setCell_same _ _ _ ci
            · rw [World.cell?_setCell_other _ _ _ _ (fun e2 => e (by injection e2 with _ e2; omega))]
              exact cj
          have HW : Hid (Holds encB ((wc.setCell ⟨blk, off + i1, none⟩ (.int .u8 (xj.toNat : Int))).setCell ⟨blk, off + j1, none⟩ (.int .u8 (xi.toNat : Int))) blk off (swp d1 i1 j1)) := Lib.hid (by
            have := swap_holds2 HK.out (i := i1) (j := j1) (by have := HS.out; omega) (by have := HS.out; omega)
            rw [hxi, hxj] at this
            exact this)
          have HWB : Hid (OnlyAt blk w.heap.size w ((wc.setCell ⟨blk, off + i1, none⟩ (.int .u8 (xj.toNat : Int))).setCell ⟨blk, off + j1, none⟩ (.int .u8 (xi.toNat : Int)))) := Lib.hid ((HB.out.set (off + i1) _).set (off + j1) _)
          have ii0 : (0 : Int) ≤ (i1 : Int) := by omega
          have ii1 : (i1 : Int) < (n : Int) := by omega
          have jj0 : (0 : Int) ≤ (j1 : Int) := by omega
          have jj1 : (j1 : Int) < (n : Int) := by omega
          clear hxi hxj HK HB
          obtain ⟨d2, hd2⟩ : ∃ d2, swp d1 i1 j1 = d2 := ⟨_, rfl⟩
          rw [hd2] at HW HP
          have HS2 : Hid (d2.size = n) := Lib.hid (by rw [← hd2, size_swp]; exact HS.out)
          obtain ⟨i2, hi2⟩ : ∃ i2, i1 + 1 = i2 := ⟨_, rfl⟩
          obtain ⟨j2, hj2⟩ : ∃ j2, j1 - 1 = j2 := ⟨_, rfl⟩
          rw [hi2, hj2] at HP
          have k1 : (i1 : Int) + 1 = (i2 : Int) := by omega
          have k2 : (j1 : Int) - 1 = (j2 : Int) := by omega
          have k3 : IntKind.i64.wrap (i2 : Int) = (i2 : Int) := by rw [IntKind.wrap_i64]; omega
          have k4 : IntKind.i64.wrap (j2 : Int) = (j2 : Int) := by rw [IntKind.wrap_i64]; omega
          have hb1 : i2 ≤ j2 + 2 := by omega
          have hb2 : j2 < b := by omega
          clear hd2 HS HI1 HJ1
          go_wp2_with fail
          go_region
          all_goals
            go_wp2_with fail
            go_loopg [10, 11] (j2 + 2 - i2) (fun GK s10 s11 wr => ∃ (I J : Nat) (dk : Array UInt8), s10 = .int .i64 I ∧ s11 = .int .i64 J ∧ a < I ∧ I ≤ J + 2 ∧ J < b ∧ J + 2 - I ≤ GK ∧ Hid (dk.size = n) ∧ Hid (Holds encB wr blk off dk) ∧ Hid (OnlyAt blk w.heap.size w wr) ∧ Hid (P = ((partLoop ltB a I J dk).1, false, swp (partLoop ltB a I J dk).2 (partLoop ltB a I J dk).1 a)))
            case atStart => exact ⟨i2, j2, d2, by go_num, by go_num, by omega, hb1, hb2, Nat.le_refl _, HS2, HW, Lib.hid HWB.out.drew, HP⟩
            case round =>
              clear HW HWB HS2 HP hb1 hb2 k1 k2 k3 k4 hi2 hj2 hgtz hgt hi1a hi1b hj1a hj1b e1 e2 e3 e4 hi0 hj0 ii0 ii1 jj0 jj1 cs ci cj fi fj
              obtain ⟨I, J, dk, rfl, rfl, hAI, hIJ2, hJb, hG, HS, HK, HB, HO⟩ := hrel
              have HQ := HO
              go_upto_block 6 with fail
              go_cut [10] from 99 to 152 (fun s wx => s = .int .i64 ((scanUp (fun x => ltB x dk[a]!) dk J I : Nat) : Int) ∧ Hid (Holds encB wx blk off dk) ∧ Hid (OnlyAt blk w.heap.size w wx))
              case first =>
                go_wp2_with fail
                go_loopg [10] (J + 1 - I) (fun gk s wr => ∃ i : Nat, s = .int .i64 i ∧ a < i ∧ i ≤ J + 2 ∧ J + 1 - i ≤ gk ∧ Hid (Holds encB wr blk off dk) ∧ Hid (OnlyAt blk w.heap.size w wr) ∧ Hid (scanUp (fun x => ltB x dk[a]!) dk J i = scanUp (fun x => ltB x dk[a]!) dk J I))
                case atStart => exact ⟨I, by go_num, by omega, by omega, Nat.le_refl _, HK, HB, Lib.hid rfl⟩
                case round =>
                  clear HK HB
                  obtain ⟨i, rfl, hai, hij1, hg, HK, HB, HO⟩ := hrel
                  by_cases hij : i ≤ J
                  · have hijz : (i : Int) ≤ (J : Int) := by omega
                    have hd : decide ((i : Int) ≤ (J : Int)) = true := decide_eq_true hijz
                    have ci := (HK.out i (by have := HS.out; omega)).1
                    have ca := (HK.out a (by have := HS.out; omega)).1
                    obtain ⟨x, hx⟩ : ∃ x, dk[i]! = x := ⟨_, rfl⟩
                    obtain ⟨y, hy⟩ : ∃ y, dk[a]! = y := ⟨_, rfl⟩
                    rw [hx] at ci
                    rw [hy] at ca
                    unfold encB at ci ca
                    have i0' : (0 : Int) ≤ (i : Int) := by omega
                    have i1' : (i : Int) < (n : Int) := by omega
                    have hxl := Lib.hid hx
                    have hyl := Lib.hid hy
                    clear hx hy
                    obtain ⟨g', rfl⟩ : ∃ g', gk = g' + 1 := ⟨gk - 1, by omega⟩
                    have C1 := C.out x y
                    cases hlv : ltB x y with
                    | true =>
                      have HP : Hid (scanUp (fun x => ltB x dk[a]!) dk J (i + 1) = scanUp (fun x => ltB x dk[a]!) dk J I) := Lib.hid (by rw [← HO.out, scanUp_go _ _ _ _ hij (by rw [hxl.out, hyl.out, hlv] <;> rfl)])
                      have C2 : Hid (∀ w, Calls Tryz.prog 171 #[.int .u8 (x.toNat : Int), .int .u8 (y.toNat : Int)] w fun e w' => e = .returned (.bool true) ∧ w' = w) := Lib.hid (fun w => by have := C.out x y w; rwa [hlv] at this)
                      clear hlv C1
                      go_wp2_with fail
                      go_quiet (first | (go_at_call 171; refine Calls.quiet_of_same (C2.out _)))
                      go_wp2
                      go_roundg g'
                      case measure => omega
                      case rel => exact ⟨i + 1, by go_num, by omega, by omega, by omega, Lib.hid (holds_drewN HK.out _), Lib.hid (only_drewN HB.out _), HP⟩
                    | false =>
                      have HP : Hid (i = scanUp (fun x => ltB x dk[a]!) dk J I) := Lib.hid (by rw [← HO.out, scanUp_stop _ _ _ _ (.inr (by rw [hxl.out, hyl.out, hlv] <;> rfl))])
                      have C2 : Hid (∀ w, Calls Tryz.prog 171 #[.int .u8 (x.toNat : Int), .int .u8 (y.toNat : Int)] w fun e w' => e = .returned (.bool false) ∧ w' = w) := Lib.hid (fun w => by have := C.out x y w; rwa [hlv] at this)
                      clear hlv C1
                      go_wp2_with fail
                      go_quiet (first | (go_at_call 171; refine Calls.quiet_of_same (C2.out _)))
                      go_wp2
                      go_meet
                      exact ⟨by rw [← HP.out], Lib.hid (holds_drewN HK.out _), Lib.hid (only_drewN HB.out _)⟩
                  · have hijz : ¬ (i : Int) ≤ (J : Int) := by omega
                    have hd : decide ((i : Int) ≤ (J : Int)) = false := decide_eq_false hijz
                    have HP : Hid (i = scanUp (fun x => ltB x dk[a]!) dk J I) := Lib.hid (by rw [← HO.out, scanUp_stop _ _ _ _ (.inl hij)])
                    go_wp2_with fail
                    go_quiet (fail)
                    go_wp2
                    go_meet
                    exact ⟨by rw [← HP.out], Lib.hid (holds_drewN HK.out _), Lib.hid (only_drewN HB.out _)⟩
              case rest =>
                clear HK HB
                obtain ⟨rfl, HK, HB⟩ := hcut
                obtain ⟨I2, hI2⟩ : ∃ I2, scanUp (fun x => ltB x dk[a]!) dk J I = I2 := ⟨_, rfl⟩
                have hsu := scanUp_spec (fun x => ltB x dk[a]!) dk J _ I rfl
                rw [hI2] at hsu
                have hI2a : a < I2 := by omega
                have hI2b : I2 ≤ J + 2 := by
                  by_cases h : I ≤ J + 1
                  · have := hsu.2.1 h; omega
                  · have := scanUp_stop (fun x => ltB x dk[a]!) dk J I (.inl (by omega))
                    omega
                have HI2 := Lib.hid hI2
                rw [hI2]
                clear hsu hI2
                go_upto_block 8 with fail
                go_cut [11] from 99 to 152 (fun s wx => s = .int .i64 ((scanDown (fun x => !ltB x dk[a]!) dk I2 J : Nat) : Int) ∧ Hid (Holds encB wx blk off dk) ∧ Hid (OnlyAt blk w.heap.size w wx))
                case first =>
                  go_wp2_with fail
                  go_loopg [11] (J + 1) (fun gk s wr => ∃ j : Nat, s = .int .i64 j ∧ j ≤ J ∧ I2 ≤ j + 2 ∧ j + 1 ≤ gk ∧ Hid (Holds encB wr blk off dk) ∧ Hid (OnlyAt blk w.heap.size w wr) ∧ Hid (scanDown (fun x => !ltB x dk[a]!) dk I2 j = scanDown (fun x => !ltB x dk[a]!) dk I2 J))
                  case atStart => exact ⟨J, by go_num, Nat.le_refl _, by omega, Nat.le_refl _, HK, HB, Lib.hid rfl⟩
                  case round =>
                    clear HK HB
                    obtain ⟨j, rfl, hjj, hij1, hg, HK, HB, HO⟩ := hrel
                    by_cases hij : I2 ≤ j
                    · have hijz : (I2 : Int) ≤ (j : Int) := by omega
                      have hd : decide ((I2 : Int) ≤ (j : Int)) = true := decide_eq_true hijz
                      obtain ⟨jp, rfl⟩ : ∃ jp, j = jp + 1 := ⟨j - 1, by omega⟩
                      have cj := (HK.out (jp + 1) (by have := HS.out; omega)).1
                      have ca := (HK.out a (by have := HS.out; omega)).1
                      obtain ⟨x, hx⟩ : ∃ x, dk[jp + 1]! = x := ⟨_, rfl⟩
                      obtain ⟨y, hy⟩ : ∃ y, dk[a]! = y := ⟨_, rfl⟩
                      rw [hx] at cj
                      rw [hy] at ca
                      unfold encB at cj ca
                      obtain ⟨q, hq⟩ : ∃ q, jp + 1 = q := ⟨_, rfl⟩
                      have q1 : (jp : Int) + 1 = (q : Int) := by omega
                      have q2 : (q : Int) - 1 = (jp : Int) := by omega
                      have q3 : IntKind.i64.wrap (jp : Int) = (jp : Int) := by rw [IntKind.wrap_i64]; omega
                      rw [hq] at cj
                      have j0' : (0 : Int) ≤ (q : Int) := by omega
                      have j1' : (q : Int) < (n : Int) := by omega
                      rw [hq] at hijz hd
                      rw [show ((jp + 1 : Nat) : Int) = (q : Int) by omega]
                      have hxl := Lib.hid hx
                      have hyl := Lib.hid hy
                      clear hx hy
                      obtain ⟨g', rfl⟩ : ∃ g', gk = g' + 1 := ⟨gk - 1, by omega⟩
                      cases hlv : ltB x y with
                      | false =>
                        have HP : Hid (scanDown (fun x => !ltB x dk[a]!) dk I2 jp = scanDown (fun x => !ltB x dk[a]!) dk I2 J) := Lib.hid (by rw [← HO.out, scanDown_go _ _ _ _ hij (by rw [hxl.out, hyl.out, hlv] <;> rfl)])
                        have C2 : Hid (∀ w, Calls Tryz.prog 171 #[.int .u8 (x.toNat : Int), .int .u8 (y.toNat : Int)] w fun e w' => e = .returned (.bool false) ∧ w' = w) := Lib.hid (fun w => by have := C.out x y w; rwa [hlv] at this)
                        have hij' : I2 ≤ jp + 2 := by omega
                        clear hlv hq
                        go_wp2_with fail
                        go_quiet (first | (go_at_call 171; refine Calls.quiet_of_same (C2.out _)))
                        go_wp2
                        go_roundg g'
                        case measure => omega
                        case rel => exact ⟨jp, by go_num, by omega, hij', by omega, Lib.hid (holds_drewN HK.out _), Lib.hid (only_drewN HB.out _), HP⟩
                      | true =>
                        have HP : Hid (q = scanDown (fun x => !ltB x dk[a]!) dk I2 J) := Lib.hid (by rw [← HO.out, scanDown_stop _ _ _ _ (.inr (by rw [hxl.out, hyl.out, hlv] <;> rfl)), hq])
                        have C2 : Hid (∀ w, Calls Tryz.prog 171 #[.int .u8 (x.toNat : Int), .int .u8 (y.toNat : Int)] w fun e w' => e = .returned (.bool true) ∧ w' = w) := Lib.hid (fun w => by have := C.out x y w; rwa [hlv] at this)
                        clear hlv hq
                        go_wp2_with fail
                        go_quiet (first | (go_at_call 171; refine Calls.quiet_of_same (C2.out _)))
                        go_wp2
                        go_meet
                        exact ⟨by rw [← HP.out], Lib.hid (holds_drewN HK.out _), Lib.hid (only_drewN HB.out _)⟩
                    · have hijz : ¬ (I2 : Int) ≤ (j : Int) := by omega
                      have hd : decide ((I2 : Int) ≤ (j : Int)) = false := decide_eq_false hijz
                      have HP : Hid (j = scanDown (fun x => !ltB x dk[a]!) dk I2 J) := Lib.hid (by rw [← HO.out, scanDown_stop _ _ _ _ (.inl hij)])
                      go_wp2_with fail
                      go_quiet (fail)
                      go_wp2
                      go_meet
                      exact ⟨by rw [← HP.out], Lib.hid (holds_drewN HK.out _), Lib.hid (only_drewN HB.out _)⟩
                case rest =>
                  clear HK HB
                  obtain ⟨rfl, HK, HB⟩ := hcut
                  obtain ⟨J2, hJ2⟩ : ∃ J2, scanDown (fun x => !ltB x dk[a]!) dk I2 J = J2 := ⟨_, rfl⟩
                  have hJ2a : J2 ≤ J := by rw [← hJ2]; exact scanDown_le _ _ _ _
                  have HJ2 := Lib.hid hJ2
                  rw [hJ2]
                  clear hJ2
                  by_cases hgt : J2 < I2
                  · have hgtz : (J2 : Int) < (I2 : Int) := by omega
                    have HP := Lib.hid (show P = (J2, false, swp dk J2 a) by
                      rw [HQ.out, partLoop_stop a I J I2 J2 dk HI2.out HJ2.out hgt])
                    clear HQ HO
                    have ci := (HK.out J2 (by have := HS.out; omega)).1
                    have cj := (HK.out a (by have := HS.out; omega)).1
                    have fi := (HK.out J2 (by have := HS.out; omega)).2
                    have fj := (HK.out a (by have := HS.out; omega)).2
                    obtain ⟨xi, hxi⟩ : ∃ x, dk[J2]! = x := ⟨_, rfl⟩
                    obtain ⟨xj, hxj⟩ : ∃ x, dk[a]! = x := ⟨_, rfl⟩
                    rw [hxi] at ci
                    rw [hxj] at cj
                    unfold encB at ci cj
                    have cs : (wc.setCell ⟨blk, off + J2, none⟩ (.int .u8 (xj.toNat : Int))).cell? ⟨blk, off + a, none⟩ = some (.int .u8 (xj.toNat : Int)) := by
                      by_cases e : J2 = a
                      · rw [e] at ci ⊢
                        exact World.cell?_setCell_same _ _ _ ci
                      · rw [World.cell?_setCell_other _ _ _ _ (fun e2 => e (by injection e2 with _ e2; omega))]
                        exact cj
                    have HW : Hid (Holds encB ((wc.setCell ⟨blk, off + J2, none⟩ (.int .u8 (xj.toNat : Int))).setCell ⟨blk, off + a, none⟩ (.int .u8 (xi.toNat : Int))) blk off (swp dk J2 a)) := Lib.hid (by
                      have := swap_holds2 HK.out (i := J2) (j := a) (by have := HS.out; omega) (by have := HS.out; omega)
                      rw [hxi, hxj] at this
                      exact this)
                    have HWB : Hid (OnlyAt blk w.heap.size w ((wc.setCell ⟨blk, off + J2, none⟩ (.int .u8 (xj.toNat : Int))).setCell ⟨blk, off + a, none⟩ (.int .u8 (xi.toNat : Int)))) := Lib.hid ((HB.out.set (off + J2) _).set (off + a) _)
                    have ii0 : (0 : Int) ≤ (J2 : Int) := by omega
                    have ii1 : (J2 : Int) < (n : Int) := by omega
                    have jj0 : (0 : Int) ≤ (a : Int) := by omega
                    have jj1 : (a : Int) < (n : Int) := by omega
                    clear hxi hxj HK HB
                    go_wp2_with fail
                    go_region
                    all_goals
                      go_wp2
                      go_ret2
                      rw [HP.out]
                      exact ⟨rfl, HW.out, HWB.out.drew⟩
                  · have hgtz : ¬ (J2 : Int) < (I2 : Int) := by omega
                    have HP := Lib.hid (show P = ((partLoop ltB a (I2 + 1) (J2 - 1) (swp dk I2 J2)).1, false, swp (partLoop ltB a (I2 + 1) (J2 - 1) (swp dk I2 J2)).2 (partLoop ltB a (I2 + 1) (J2 - 1) (swp dk I2 J2)).1 a) by
                      rw [HQ.out, partLoop_go a I J I2 J2 dk HI2.out HJ2.out hgt])
                    clear HQ HO
                    have ci := (HK.out I2 (by have := HS.out; omega)).1
                    have cj := (HK.out J2 (by have := HS.out; omega)).1
                    have fi := (HK.out I2 (by have := HS.out; omega)).2
                    have fj := (HK.out J2 (by have := HS.out; omega)).2
                    obtain ⟨xi, hxi⟩ : ∃ x, dk[I2]! = x := ⟨_, rfl⟩
                    obtain ⟨xj, hxj⟩ : ∃ x, dk[J2]! = x := ⟨_, rfl⟩
                    rw [hxi] at ci
                    rw [hxj] at cj
                    unfold encB at ci cj
                    have cs : (wc.setCell ⟨blk, off + I2, none⟩ (.int .u8 (xj.toNat : Int))).cell? ⟨blk, off + J2, none⟩ = some (.int .u8 (xj.toNat : Int)) := by
                      by_cases e : I2 = J2
                      · rw [e] at ci ⊢
                        exact World.cell?_setCell_same _ _ _ ci
                      · rw [World.cell?_setCell_other _ _ _ _ (fun e2 => e (by injection e2 with _ e2; omega))]
                        exact cj
                    have HW : Hid (Holds encB ((wc.setCell ⟨blk, off + I2, none⟩ (.int .u8 (xj.toNat : Int))).setCell ⟨blk, off + J2, none⟩ (.int .u8 (xi.toNat : Int))) blk off (swp dk I2 J2)) := Lib.hid (by
                      have := swap_holds2 HK.out (i := I2) (j := J2) (by have := HS.out; omega) (by have := HS.out; omega)
                      rw [hxi, hxj] at this
                      exact this)
                    have HWB : Hid (OnlyAt blk w.heap.size w ((wc.setCell ⟨blk, off + I2, none⟩ (.int .u8 (xj.toNat : Int))).setCell ⟨blk, off + J2, none⟩ (.int .u8 (xi.toNat : Int)))) := Lib.hid ((HB.out.set (off + I2) _).set (off + J2) _)
                    have ii0 : (0 : Int) ≤ (I2 : Int) := by omega
                    have ii1 : (I2 : Int) < (n : Int) := by omega
                    have jj0 : (0 : Int) ≤ (J2 : Int) := by omega
                    have jj1 : (J2 : Int) < (n : Int) := by omega
                    clear hxi hxj HK HB
                    have hII : I ≤ I2 := by rw [← HI2.out]; exact scanUp_ge _ _ _ _
                    obtain ⟨I3, hI3⟩ : ∃ I3, I2 + 1 = I3 := ⟨_, rfl⟩
                    obtain ⟨J3, hJ3⟩ : ∃ J3, J2 - 1 = J3 := ⟨_, rfl⟩
                    rw [hI3, hJ3] at HP
                    have q1 : (I2 : Int) + 1 = (I3 : Int) := by omega
                    have q2 : (J2 : Int) - 1 = (J3 : Int) := by omega
                    have q3 : IntKind.i64.wrap (I3 : Int) = (I3 : Int) := by rw [IntKind.wrap_i64]; omega
                    have q4 : IntKind.i64.wrap (J3 : Int) = (J3 : Int) := by rw [IntKind.wrap_i64]; omega
                    have HS2 : Hid ((swp dk I2 J2).size = n) := Lib.hid (by rw [size_swp]; exact HS.out)
                    obtain ⟨G', rfl⟩ : ∃ G', gk = G' + 1 := ⟨gk - 1, by omega⟩
                    go_wp2_with fail
                    go_region
                    all_goals
                      go_wp2
                      go_roundg G'
                      case measure => omega
                      case rel => exact ⟨I3, J3, swp dk I2 J2, by go_num, by go_num, by omega, by omega, by omega, by omega, HS2, HW, Lib.hid HWB.out.drew, HP⟩
end Go.Proofs.YtnpgmekgmelamaaGreat

namespace Go.Proofs.YtnpgmekgmelamaaGreat
open Go.RowKit Go.Shelf Go.Sort

theorem partEq_stop (a i j i2 j2 : Nat) (d : Array UInt8) (h1 : scanUp (fun x => !ltB d[a]! x) d j i = i2) (h2 : scanDown (fun x => ltB d[a]! x) d i2 j = j2) (h : i2 > j2) : partEqLoop ltB a i j d = (i2, d) := by
  rw [partEqLoop.eq_def]
  dsimp only
  rw [h1, h2, if_pos h]
theorem partEq_go (a i j i2 j2 : Nat) (d : Array UInt8) (h1 : scanUp (fun x => !ltB d[a]! x) d j i = i2) (h2 : scanDown (fun x => ltB d[a]! x) d i2 j = j2) (h : ¬ i2 > j2) : partEqLoop ltB a i j d = partEqLoop ltB a (i2 + 1) (j2 - 1) (swp d i2 j2) := by
  have g1 := scanUp_ge (fun x => !ltB d[a]! x) d j i
  have g2 := scanDown_le (fun x => ltB d[a]! x) d i2 j
  rw [h1] at g1
  rw [h2] at g2
  rw [partEqLoop.eq_def]
  dsimp only
  rw [h1, h2, if_neg h, dif_pos (guard_of g1 g2 h)]

set_option maxRecDepth 100000 in
set_option maxHeartbeats 4000000 in
/-- slices.partitionEqualOrdered. -/
theorem partEq_any (blk off cap a b pivot : Nat) (d : Array UInt8) (w : World) (hH : Holds encB w blk off d) (ha : a ≤ pivot) (hp : pivot < b) (hb : b ≤ d.size) (hsz : d.size ≤ 1000000) :
    Calls Tryz.prog 172 #[.slice (some ⟨blk, off, none⟩) d.size cap, .int .i64 (a : Int), .int .i64 (b : Int), .int .i64 (pivot : Int)] w fun e w' => e = .returned (.int .i64 ((partitionEqual ltB d a b pivot).1 : Int)) ∧ Holds encB w' blk off (partitionEqual ltB d a b pivot).2 ∧ OnlyAt blk w.heap.size w w' := by
  have C := Lib.hid less_any
  obtain ⟨n, hn⟩ : ∃ n, d.size = n := ⟨_, rfl⟩
  have HK : Hid (Holds encB w blk off d) := hH
  have HN : Hid (d.size = n) := hn
  have HB : Hid (OnlyAt blk w.heap.size w w) := Lib.hid (OnlyAt.refl _ _ _)
  rw [hn] at hb hsz
  rw [hn]
  clear hH hn
  have ci := (HK.out a (by have := HN.out; omega)).1
  have cj := (HK.out pivot (by have := HN.out; omega)).1
  have fi := (HK.out a (by have := HN.out; omega)).2
  have fj := (HK.out pivot (by have := HN.out; omega)).2
  obtain ⟨xi, hxi⟩ : ∃ x, d[a]! = x := ⟨_, rfl⟩
  obtain ⟨xj, hxj⟩ : ∃ x, d[pivot]! = x := ⟨_, rfl⟩
  rw [hxi] at ci
  rw [hxj] at cj
  unfold encB at ci cj
  have cs : (w.setCell ⟨blk, off + a, none⟩ (.int .u8 (xj.toNat : Int))).cell? ⟨blk, off + pivot, none⟩ = some (.int .u8 (xj.toNat : Int)) := by
    by_cases e : a = pivot
    · rw [e] at ci ⊢
      exact World.cell?_setCell_same _ _ _ ci
    · rw [World.cell?_setCell_other _ _ _ _ (fun e2 => e (by injection e2 with _ e2; omega))]
      exact cj
  have HW : Hid (Holds encB ((w.setCell ⟨blk, off + a, none⟩ (.int .u8 (xj.toNat : Int))).setCell ⟨blk, off + pivot, none⟩ (.int .u8 (xi.toNat : Int))) blk off (swp d a pivot)) := Lib.hid (by
    have := swap_holds2 HK.out (i := a) (j := pivot) (by have := HN.out; omega) (by have := HN.out; omega)
    rw [hxi, hxj] at this
    exact this)
  have HWB : Hid (OnlyAt blk w.heap.size w ((w.setCell ⟨blk, off + a, none⟩ (.int .u8 (xj.toNat : Int))).setCell ⟨blk, off + pivot, none⟩ (.int .u8 (xi.toNat : Int)))) := Lib.hid ((HB.out.set (off + a) _).set (off + pivot) _)
  have ii0 : (0 : Int) ≤ (a : Int) := by omega
  have ii1 : (a : Int) < (n : Int) := by omega
  have jj0 : (0 : Int) ≤ (pivot : Int) := by omega
  have jj1 : (pivot : Int) < (n : Int) := by omega
  clear hxi hxj HK HB
  obtain ⟨d1, hd1⟩ : ∃ d1, swp d a pivot = d1 := ⟨_, rfl⟩
  rw [hd1] at HW
  have HS : Hid (d1.size = n) := Lib.hid (by rw [← hd1, size_swp]; exact HN.out)
  obtain ⟨i0, hi0⟩ : ∃ i0, a + 1 = i0 := ⟨_, rfl⟩
  obtain ⟨j0, hj0⟩ : ∃ j0, b - 1 = j0 := ⟨_, rfl⟩
  have e1 : (a : Int) + 1 = (i0 : Int) := by omega
  have e2 : (b : Int) - 1 = (j0 : Int) := by omega
  have e3 : IntKind.i64.wrap (i0 : Int) = (i0 : Int) := by rw [IntKind.wrap_i64]; omega
  have e4 : IntKind.i64.wrap (j0 : Int) = (j0 : Int) := by rw [IntKind.wrap_i64]; omega
  obtain ⟨P, hP⟩ : ∃ P, partitionEqual ltB d a b pivot = P := ⟨_, rfl⟩
  have HP0 : Hid (P = partEqLoop ltB a i0 j0 d1) := Lib.hid (by
    rw [← hP]
    unfold partitionEqual
    rw [hd1, hj0, hi0])
  rw [hP]
  have hb1 : i0 ≤ j0 + 2 := by omega
  have hb2 : j0 < b := by omega
  have hb3 : a < i0 := by omega
  clear hP hd1 hi0 hj0
  go_enter Tryz.func172, Tryz.ntmps172
  go_wp2_with fail
  go_region
  all_goals
    go_wp2_with fail
    go_loopg [9, 10] (j0 + 2 - i0) (fun GK s10 s11 wr => ∃ (I J : Nat) (dk : Array UInt8), s10 = .int .i64 I ∧ s11 = .int .i64 J ∧ a < I ∧ I ≤ J + 2 ∧ J < b ∧ J + 2 - I ≤ GK ∧ Hid (dk.size = n) ∧ Hid (Holds encB wr blk off dk) ∧ Hid (OnlyAt blk w.heap.size w wr) ∧ Hid (P = partEqLoop ltB a I J dk))
    case atStart => exact ⟨i0, j0, d1, by go_num, by go_num, hb3, hb1, hb2, Nat.le_refl _, HS, HW, Lib.hid HWB.out.drew, HP0⟩
    case round =>
      clear HW HWB HS HP0 hb1 hb2 hb3 e1 e2 e3 e4 ii0 ii1 jj0 jj1 cs ci cj fi fj
      obtain ⟨I, J, dk, rfl, rfl, hAI, hIJ2, hJb, hG, HS, HK, HB, HO⟩ := hrel
      have HQ := HO
      go_upto_block 2 with fail
      go_cut [9] from 29 to 82 (fun s wx => s = .int .i64 ((scanUp (fun x => !ltB dk[a]! x) dk J I : Nat) : Int) ∧ Hid (Holds encB wx blk off dk) ∧ Hid (OnlyAt blk w.heap.size w wx))
      case first =>
        go_wp2_with fail
        go_loopg [9] (J + 1 - I) (fun gk s wr => ∃ i : Nat, s = .int .i64 i ∧ a < i ∧ i ≤ J + 2 ∧ J + 1 - i ≤ gk ∧ Hid (Holds encB wr blk off dk) ∧ Hid (OnlyAt blk w.heap.size w wr) ∧ Hid (scanUp (fun x => !ltB dk[a]! x) dk J i = scanUp (fun x => !ltB dk[a]! x) dk J I))
        case atStart => exact ⟨I, by go_num, by omega, by omega, Nat.le_refl _, HK, HB, Lib.hid rfl⟩
        case round =>
          clear HK HB
          obtain ⟨i, rfl, hai, hij1, hg, HK, HB, HO⟩ := hrel
          by_cases hij : i ≤ J
          · have hijz : (i : Int) ≤ (J : Int) := by omega
            have hd : decide ((i : Int) ≤ (J : Int)) = true := decide_eq_true hijz
            have ci := (HK.out i (by have := HS.out; omega)).1
            have ca := (HK.out a (by have := HS.out; omega)).1
            obtain ⟨x, hx⟩ : ∃ x, dk[i]! = x := ⟨_, rfl⟩
            obtain ⟨y, hy⟩ : ∃ y, dk[a]! = y := ⟨_, rfl⟩
            rw [hx] at ci
            rw [hy] at ca
            unfold encB at ci ca
            have i0' : (0 : Int) ≤ (i : Int) := by omega
            have i1' : (i : Int) < (n : Int) := by omega
            have hxl := Lib.hid hx
            have hyl := Lib.hid hy
            clear hx hy
            obtain ⟨g', rfl⟩ : ∃ g', gk = g' + 1 := ⟨gk - 1, by omega⟩
            have C1 := C.out y x
            cases hlv : ltB y x with
            | false =>
              have HP : Hid (scanUp (fun x => !ltB dk[a]! x) dk J (i + 1) = scanUp (fun x => !ltB dk[a]! x) dk J I) := Lib.hid (by rw [← HO.out, scanUp_go _ _ _ _ hij (by rw [hxl.out, hyl.out, hlv] <;> rfl)])
              have C2 : Hid (∀ w, Calls Tryz.prog 171 #[.int .u8 (y.toNat : Int), .int .u8 (x.toNat : Int)] w fun e w' => e = .returned (.bool false) ∧ w' = w) := Lib.hid (fun w => by have := C.out y x w; rwa [hlv] at this)
              clear hlv C1
              go_wp2_with fail
              go_quiet (first | (go_at_call 171; refine Calls.quiet_of_same (C2.out _)))
              go_wp2
              go_roundg g'
              case measure => omega
              case rel => exact ⟨i + 1, by go_num, by omega, by omega, by omega, Lib.hid (holds_drewN HK.out _), Lib.hid (only_drewN HB.out _), HP⟩
            | true =>
              have HP : Hid (i = scanUp (fun x => !ltB dk[a]! x) dk J I) := Lib.hid (by rw [← HO.out, scanUp_stop _ _ _ _ (.inr (by rw [hxl.out, hyl.out, hlv] <;> rfl))])
              have C2 : Hid (∀ w, Calls Tryz.prog 171 #[.int .u8 (y.toNat : Int), .int .u8 (x.toNat : Int)] w fun e w' => e = .returned (.bool true) ∧ w' = w) := Lib.hid (fun w => by have := C.out y x w; rwa [hlv] at this)
              clear hlv C1
              go_wp2_with fail
              go_quiet (first | (go_at_call 171; refine Calls.quiet_of_same (C2.out _)))
              go_wp2
              go_meet
              exact ⟨by rw [← HP.out], Lib.hid (holds_drewN HK.out _), Lib.hid (only_drewN HB.out _)⟩
          · have hijz : ¬ (i : Int) ≤ (J : Int) := by omega
            have hd : decide ((i : Int) ≤ (J : Int)) = false := decide_eq_false hijz
            have HP : Hid (i = scanUp (fun x => !ltB dk[a]! x) dk J I) := Lib.hid (by rw [← HO.out, scanUp_stop _ _ _ _ (.inl hij)])
            go_wp2_with fail
            go_quiet (fail)
            go_wp2
            go_meet
            exact ⟨by rw [← HP.out], Lib.hid (holds_drewN HK.out _), Lib.hid (only_drewN HB.out _)⟩
      case rest =>
        clear HK HB
        obtain ⟨rfl, HK, HB⟩ := hcut
        obtain ⟨I2, hI2⟩ : ∃ I2, scanUp (fun x => !ltB dk[a]! x) dk J I = I2 := ⟨_, rfl⟩
        have hsu := scanUp_spec (fun x => !ltB dk[a]! x) dk J _ I rfl
        rw [hI2] at hsu
        have hI2a : a < I2 := by omega
        have hI2b : I2 ≤ J + 2 := by
          by_cases h : I ≤ J + 1
          · have := hsu.2.1 h; omega
          · have := scanUp_stop (fun x => !ltB dk[a]! x) dk J I (.inl (by omega))
            omega
        have HI2 := Lib.hid hI2
        rw [hI2]
        clear hsu hI2
        go_upto_block 4 with fail
        go_cut [10] from 29 to 82 (fun s wx => s = .int .i64 ((scanDown (fun x => ltB dk[a]! x) dk I2 J : Nat) : Int) ∧ Hid (Holds encB wx blk off dk) ∧ Hid (OnlyAt blk w.heap.size w wx))
        case first =>
          go_wp2_with fail
          go_loopg [10] (J + 1) (fun gk s wr => ∃ j : Nat, s = .int .i64 j ∧ j ≤ J ∧ I2 ≤ j + 2 ∧ j + 1 ≤ gk ∧ Hid (Holds encB wr blk off dk) ∧ Hid (OnlyAt blk w.heap.size w wr) ∧ Hid (scanDown (fun x => ltB dk[a]! x) dk I2 j = scanDown (fun x => ltB dk[a]! x) dk I2 J))
          case atStart => exact ⟨J, by go_num, Nat.le_refl _, by omega, Nat.le_refl _, HK, HB, Lib.hid rfl⟩
          case round =>
            clear HK HB
            obtain ⟨j, rfl, hjj, hij1, hg, HK, HB, HO⟩ := hrel
            by_cases hij : I2 ≤ j
            · have hijz : (I2 : Int) ≤ (j : Int) := by omega
              have hd : decide ((I2 : Int) ≤ (j : Int)) = true := decide_eq_true hijz
              obtain ⟨jp, rfl⟩ : ∃ jp, j = jp + 1 := ⟨j - 1, by omega⟩
              have cj := (HK.out (jp + 1) (by have := HS.out; omega)).1
              have ca := (HK.out a (by have := HS.out; omega)).1
              obtain ⟨x, hx⟩ : ∃ x, dk[jp + 1]! = x := ⟨_, rfl⟩
              obtain ⟨y, hy⟩ : ∃ y, dk[a]! = y := ⟨_, rfl⟩
              rw [hx] at cj
              rw [hy] at ca
              unfold encB at cj ca
              obtain ⟨q, hq⟩ : ∃ q, jp + 1 = q := ⟨_, rfl⟩
              have q1 : (jp : Int) + 1 = (q : Int) := by omega
              have q2 : (q : Int) - 1 = (jp : Int) := by omega
              have q3 : IntKind.i64.wrap (jp : Int) = (jp : Int) := by rw [IntKind.wrap_i64]; omega
              rw [hq] at cj
              have j0' : (0 : Int) ≤ (q : Int) := by omega
              have j1' : (q : Int) < (n : Int) := by omega
              rw [hq] at hijz hd
              rw [show ((jp + 1 : Nat) : Int) = (q : Int) by omega]
              have hxl := Lib.hid hx
              have hyl := Lib.hid hy
              clear hx hy
              obtain ⟨g', rfl⟩ : ∃ g', gk = g' + 1 := ⟨gk - 1, by omega⟩
              cases hlv : ltB y x with
              | true =>
                have HP : Hid (scanDown (fun x => ltB dk[a]! x) dk I2 jp = scanDown (fun x => ltB dk[a]! x) dk I2 J) := Lib.hid (by rw [← HO.out, scanDown_go _ _ _ _ hij (by rw [hxl.out, hyl.out, hlv] <;> rfl)])
                have C2 : Hid (∀ w, Calls Tryz.prog 171 #[.int .u8 (y.toNat : Int), .int .u8 (x.toNat : Int)] w fun e w' => e = .returned (.bool true) ∧ w' = w) := Lib.hid (fun w => by have := C.out y x w; rwa [hlv] at this)
                have hij' : I2 ≤ jp + 2 := by omega
                clear hlv hq
                go_wp2_with fail
                go_quiet (first | (go_at_call 171; refine Calls.quiet_of_same (C2.out _)))
                go_wp2
                go_roundg g'
                case measure => omega
                case rel => exact ⟨jp, by go_num, by omega, hij', by omega, Lib.hid (holds_drewN HK.out _), Lib.hid (only_drewN HB.out _), HP⟩
              | false =>
                have HP : Hid (q = scanDown (fun x => ltB dk[a]! x) dk I2 J) := Lib.hid (by rw [← HO.out, scanDown_stop _ _ _ _ (.inr (by rw [hxl.out, hyl.out, hlv] <;> rfl)), hq])
                have C2 : Hid (∀ w, Calls Tryz.prog 171 #[.int .u8 (y.toNat : Int), .int .u8 (x.toNat : Int)] w fun e w' => e = .returned (.bool false) ∧ w' = w) := Lib.hid (fun w => by have := C.out y x w; rwa [hlv] at this)
                clear hlv hq
                go_wp2_with fail
                go_quiet (first | (go_at_call 171; refine Calls.quiet_of_same (C2.out _)))
                go_wp2
                go_meet
                exact ⟨by rw [← HP.out], Lib.hid (holds_drewN HK.out _), Lib.hid (only_drewN HB.out _)⟩
            · have hijz : ¬ (I2 : Int) ≤ (j : Int) := by omega
              have hd : decide ((I2 : Int) ≤ (j : Int)) = false := decide_eq_false hijz
              have HP : Hid (j = scanDown (fun x => ltB dk[a]! x) dk I2 J) := Lib.hid (by rw [← HO.out, scanDown_stop _ _ _ _ (.inl hij)])
              go_wp2_with fail
              go_quiet (fail)
              go_wp2
              go_meet
              exact ⟨by rw [← HP.out], Lib.hid (holds_drewN HK.out _), Lib.hid (only_drewN HB.out _)⟩
        case rest =>
          clear HK HB
          obtain ⟨rfl, HK, HB⟩ := hcut
          obtain ⟨J2, hJ2⟩ : ∃ J2, scanDown (fun x => ltB dk[a]! x) dk I2 J = J2 := ⟨_, rfl⟩
          have hJ2a : J2 ≤ J := by rw [← hJ2]; exact scanDown_le _ _ _ _
          have HJ2 := Lib.hid hJ2
          rw [hJ2]
          clear hJ2
          by_cases hgt : J2 < I2
          · have hgtz : (J2 : Int) < (I2 : Int) := by omega
            have HP := Lib.hid (show P = (I2, dk) by
              rw [HQ.out, partEq_stop a I J I2 J2 dk HI2.out HJ2.out hgt])
            clear HQ HO
            go_wp2
            refine bodyPost_ret (v := .int .i64 (I2 : Int)) (by simp [results, Tryz.results172, go_sem]) rfl ?_
            rw [HP.out]
            exact ⟨rfl, HK.out, HB.out⟩
          · have hgtz : ¬ (J2 : Int) < (I2 : Int) := by omega
            have HP := Lib.hid (show P = partEqLoop ltB a (I2 + 1) (J2 - 1) (swp dk I2 J2) by
              rw [HQ.out, partEq_go a I J I2 J2 dk HI2.out HJ2.out hgt])
            clear HQ HO
            have ci := (HK.out I2 (by have := HS.out; omega)).1
            have cj := (HK.out J2 (by have := HS.out; omega)).1
            have fi := (HK.out I2 (by have := HS.out; omega)).2
            have fj := (HK.out J2 (by have := HS.out; omega)).2
            obtain ⟨xi, hxi⟩ : ∃ x, dk[I2]! = x := ⟨_, rfl⟩
            obtain ⟨xj, hxj⟩ : ∃ x, dk[J2]! = x := ⟨_, rfl⟩
            rw [hxi] at ci
            rw [hxj] at cj
            unfold encB at ci cj
            have cs : (wc.setCell ⟨blk, off + I2, none⟩ (.int .u8 (xj.toNat : Int))).cell? ⟨blk, off + J2, none⟩ = some (.int .u8 (xj.toNat : Int)) := by
              by_cases e : I2 = J2
              · rw [e] at ci ⊢
                exact World.cell?_setCell_same _ _ _ ci
              · rw [World.cell?_setCell_other _ _ _ _ (fun e2 => e (by injection e2 with _ e2; omega))]
                exact cj
            have HW : Hid (Holds encB ((wc.setCell ⟨blk, off + I2, none⟩ (.int .u8 (xj.toNat : Int))).setCell ⟨blk, off + J2, none⟩ (.int .u8 (xi.toNat : Int))) blk off (swp dk I2 J2)) := Lib.hid (by
              have := swap_holds2 HK.out (i := I2) (j := J2) (by have := HS.out; omega) (by have := HS.out; omega)
              rw [hxi, hxj] at this
              exact this)
            have HWB : Hid (OnlyAt blk w.heap.size w ((wc.setCell ⟨blk, off + I2, none⟩ (.int .u8 (xj.toNat : Int))).setCell ⟨blk, off + J2, none⟩ (.int .u8 (xi.toNat : Int)))) := Lib.hid ((HB.out.set (off + I2) _).set (off + J2) _)
            have ii0 : (0 : Int) ≤ (I2 : Int) := by omega
            have ii1 : (I2 : Int) < (n : Int) := by omega
            have jj0 : (0 : Int) ≤ (J2 : Int) := by omega
            have jj1 : (J2 : Int) < (n : Int) := by omega
            clear hxi hxj HK HB
            have hII : I ≤ I2 := by rw [← HI2.out]; exact scanUp_ge _ _ _ _
            obtain ⟨I3, hI3⟩ : ∃ I3, I2 + 1 = I3 := ⟨_, rfl⟩
            obtain ⟨J3, hJ3⟩ : ∃ J3, J2 - 1 = J3 := ⟨_, rfl⟩
            rw [hI3, hJ3] at HP
            have q1 : (I2 : Int) + 1 = (I3 : Int) := by omega
            have q2 : (J2 : Int) - 1 = (J3 : Int) := by omega
            have q3 : IntKind.i64.wrap (I3 : Int) = (I3 : Int) := by rw [IntKind.wrap_i64]; omega
            have q4 : IntKind.i64.wrap (J3 : Int) = (J3 : Int) := by rw [IntKind.wrap_i64]; omega
            have HS2 : Hid ((swp dk I2 J2).size = n) := Lib.hid (by rw [size_swp]; exact HS.out)
            obtain ⟨G', rfl⟩ : ∃ G', gk = G' + 1 := ⟨gk - 1, by omega⟩
            go_wp2_with fail
            go_region
            all_goals
              go_wp2
              go_roundg G'
              case measure => omega
              case rel => exact ⟨I3, J3, swp dk I2 J2, by go_num, by go_num, by omega, by omega, by omega, by omega, HS2, HW, Lib.hid HWB.out.drew, HP⟩
end Go.Proofs.YtnpgmekgmelamaaGreat

namespace Go.Proofs.YtnpgmekgmelamaaGreat
open Go.RowKit Go.Shelf Go.Sort

theorem only_two {s B nb : Nat} {a w : World} (h : OnlyAt s B a w) (hB : B ≤ nb) (i : Nat) (v : Value) : OnlyAt s B a (w.setCell ⟨nb, i, none⟩ v) := by
  refine ⟨h.os, h.tape, h.output, by simpa [World.setCell] using h.size, fun k hk hs => ?_⟩
  rw [RowKit.Below.heap_setCell _ _ _ _ (by show k ≠ nb; omega)]
  exact h.block k hk hs
theorem holds_other {W : World} {blk off nb i : Nat} {d : Array UInt8} {v : Value} (h : Holds encB W blk off d) (hne : blk ≠ nb) : Holds encB (W.setCell ⟨nb, i, none⟩ v) blk off d := fun k hk => by
  obtain ⟨h1, h2⟩ := h k hk
  refine ⟨?_, by rw [World.frozen?_setCell]; exact h2⟩
  rw [World.cell?_setCell_other _ _ _ _ (fun e => hne (by injection e with e; exact e.symm))]
  exact h1

set_option maxRecDepth 100000 in
set_option maxHeartbeats 4000000 in
/-- slices.breakPatternsOrdered. -/
theorem break_any (blk off cap a b : Nat) (d : Array UInt8) (w : World) (hH : Holds encB w blk off d) (hlt : blk < w.heap.size) (hab : a + 8 ≤ b) (hb : b ≤ d.size) (hsz : d.size ≤ 1000000) :
    Calls Tryz.prog 167 #[.slice (some ⟨blk, off, none⟩) d.size cap, .int .i64 (a : Int), .int .i64 (b : Int)] w fun e w' => e = .returned (.tuple #[]) ∧ Holds encB w' blk off (breakPatterns d a b) ∧ OnlyAt blk w.heap.size w w' := by
  obtain ⟨L, hL⟩ : ∃ L, b - a = L := ⟨_, rfl⟩
  obtain ⟨q, hq⟩ : ∃ q, L / 4 = q := ⟨_, rfl⟩
  obtain ⟨q2, hq2⟩ : ∃ q2, q * 2 = q2 := ⟨_, rfl⟩
  obtain ⟨j0, hj0⟩ : ∃ j0, a + q2 = j0 := ⟨_, rfl⟩
  obtain ⟨i0, hi0⟩ : ∃ i0, j0 - 1 = i0 := ⟨_, rfl⟩
  obtain ⟨j1, hj1⟩ : ∃ j1, j0 + 1 = j1 := ⟨_, rfl⟩
  obtain ⟨M, hM⟩ : ∃ M : Nat, M = 1 <<< bitsLen L := ⟨_, rfl⟩
  have hM1 : 1 ≤ M := by rw [hM, Nat.one_shiftLeft]; exact Nat.two_pow_pos _
  have hM2 : M ≤ 2 * L := by rw [hM, Nat.one_shiftLeft]; exact two_pow_bitsLen_le (by omega)
  have HBP : Hid (breakPatterns d a b = bpRest a L M i0 3 0 (UInt64.ofNat L, d)) := Lib.hid (by
    have := breakPatterns_eq d a L (by omega)
    rw [show a + L = b by omega, ← hM, hq, hq2, hj0, hi0] at this
    exact this)
  have CP : Hid (∀ w, Calls Tryz.prog 159 #[.int .i64 (L : Int)] w fun e w' => e = .returned (.int .u64 (M : Int)) ∧ w' = w) := Lib.hid (by
    rw [hM]
    exact fun w => AnyF.nextPowerOfTwo Tryz.laysPow L (by omega) w)
  have CX : Hid (∀ (w : World) (rb X : Nat), X < 18446744073709551616 → w.cell? ⟨rb, 0, none⟩ = some (.int .u64 (X : Int)) → w.frozen? ⟨rb, 0, none⟩ = false → Calls Tryz.prog 160 #[.pointer (some ⟨rb, 0, none⟩)] w fun e w' => e = .returned (.int .u64 (xorNextN X : Nat)) ∧ w' = (w.setCell ⟨rb, 0, none⟩ (.int .u64 (xorNextN X : Nat))).drewN 3) := Lib.hid (fun w rb X hX hc hf => AnyF.xorshift_Next Tryz.laysXor rb 0 X hX w hc hf)
  have e1 : (b : Int) - (a : Int) = (L : Int) := by omega
  have e2 : IntKind.i64.wrap (L : Int) = (L : Int) := by rw [IntKind.wrap_i64]; omega
  have e3 : (L : Int).tdiv 4 = (q : Int) := by
    have : (L : Int).tdiv 4 = (L : Int) / 4 := Int.tdiv_eq_ediv_of_nonneg (by omega)
    omega
  have e4 : (q : Int) * 2 = (q2 : Int) := by omega
  have e5 : (a : Int) + (q2 : Int) = (j0 : Int) := by omega
  have e6 : (j0 : Int) - 1 = (i0 : Int) := by omega
  have e7 : (j0 : Int) + 1 = (j1 : Int) := by omega
  have f1 : IntKind.i64.wrap (q : Int) = (q : Int) := by rw [IntKind.wrap_i64]; omega
  have f2 : IntKind.i64.wrap (q2 : Int) = (q2 : Int) := by rw [IntKind.wrap_i64]; omega
  have f3 : IntKind.i64.wrap (j0 : Int) = (j0 : Int) := by rw [IntKind.wrap_i64]; omega
  have f4 : IntKind.i64.wrap (i0 : Int) = (i0 : Int) := by rw [IntKind.wrap_i64]; omega
  have f5 : IntKind.i64.wrap (j1 : Int) = (j1 : Int) := by rw [IntKind.wrap_i64]; omega
  have l8 : (8 : Int) ≤ (L : Int) := by omega
  have hi1 : i0 + 2 = j1 := by omega
  have hi2 : j1 < b := by omega
  obtain ⟨n, hn⟩ : ∃ n, d.size = n := ⟨_, rfl⟩
  have HN : Hid (d.size = n) := hn
  have HH : Hid (Holds encB w blk off d) := hH
  rw [hn] at hb hsz
  rw [hn]
  have hLw : (UInt64.ofNat L).toNat = L := by simp; omega
  clear hM hq hq2 hj0 hi0 hj1 hn hH
  go_enter Tryz.func167, Tryz.ntmps167
  go_wp2_with fail
  refine (CP.out _).mono ?_
  rintro e w1 ⟨rfl, e0⟩
  rw [e0]
  clear e0 w1
  go_wp2_with fail
  go_loopg [9] 3 (fun gk s9 wr => ∃ (t : Nat) (r : UInt64) (dk : Array UInt8), s9 = .int .i64 ((i0 + t : Nat) : Int) ∧ t + gk = 3 ∧ Hid (dk.size = n) ∧ Hid (Holds encB wr blk off dk) ∧ Hid (OnlyAt blk w.heap.size w wr) ∧ (wr.cell? ⟨w.heap.size, 0, none⟩ = some (.int .u64 (r.toNat : Int)) ∧ wr.frozen? ⟨w.heap.size, 0, none⟩ = false) ∧ Hid (bpRest a L M i0 (3 - t) t (r, dk) = breakPatterns d a b))
  case atStart =>
    refine ⟨0, UInt64.ofNat L, d, by go_num, rfl, HN, Lib.hid ?_, Lib.hid ?_, ⟨?_, ?_⟩, Lib.hid HBP.out.symm⟩
    · intro k hk
      obtain ⟨h1, h2⟩ := HH.out k hk
      exact ⟨by rw [World.cell?_of_block (w := w) (RowKit.Below.heap_alloc _ _ _ hlt)]; exact h1, by rw [World.frozen?_of_block (w := w) (RowKit.Below.heap_alloc _ _ _ hlt)]; exact h2⟩
    · exact ⟨rfl, rfl, rfl, by simp, fun k hk _ => RowKit.Below.heap_alloc _ _ _ hk⟩
    · rw [hLw, World.cell?_alloc_new]; rfl
    · have := World.alloc_heap_new w (.cells #[.int .u64 (L : Int)] 189)
      unfold World.frozen?
      dsimp only
      rw [this]
      rfl
  case round =>
    clear HH HN HBP CP
    obtain ⟨t, r, dk, rfl, htg, HS, HK, HB, ⟨kc, kf⟩, HO⟩ := hrel
    by_cases ht : t < 3
    · obtain ⟨x, hx⟩ : ∃ x, i0 + t = x := ⟨_, rfl⟩
      rw [hx]
      have hxz : (x : Int) ≤ (j1 : Int) := by omega
      obtain ⟨R, hR⟩ : ∃ R : Nat, r.toNat = R := ⟨_, rfl⟩
      have lR : R < 18446744073709551616 := by rw [← hR]; exact r.toNat_lt
      obtain ⟨R', hR'⟩ : ∃ R' : Nat, xorNextN R = R' := ⟨_, rfl⟩
      have lR' : R' < 18446744073709551616 := by rw [← hR']; exact xorNextN_lt R lR
      obtain ⟨O, hO⟩ : ∃ O : Nat, R' &&& (M - 1) = O := ⟨_, rfl⟩
      have lO : O ≤ M - 1 := by rw [← hO]; exact Nat.and_le_right
      have eAnd : bits .and .u64 (R' : Int) ((M : Int) - 1) = (O : Int) := by
        rw [show ((M : Int) - 1) = ((M - 1 : Nat) : Int) by omega, bits_and_u64_nat _ _ lR' (by omega), hO]
      have HN1 : Hid (R' = (xorNext r).toNat ∧ O = (xorNext r).toNat &&& (M - 1)) := Lib.hid (by
        have e : R' = (xorNext r).toNat := by rw [← hR', ← hR, xorNext_toNat]
        exact ⟨e, by rw [← hO, e]⟩)
      rw [hR] at kc
      have CN : Hid (Calls Tryz.prog 160 #[.pointer (some ⟨w.heap.size, 0, none⟩)] wr fun e w' => e = .returned (.int .u64 (R' : Int)) ∧ w' = (wr.setCell ⟨w.heap.size, 0, none⟩ (.int .u64 (R' : Int))).drewN 3) := Lib.hid (by
        have := CX.out wr w.heap.size R lR kc kf
        rwa [hR'] at this)
      have hxb : x < b := by omega
      obtain ⟨g', rfl⟩ : ∃ g', gk = g' + 1 := ⟨gk - 1, by omega⟩
      clear hR hR' hO CX
      by_cases hLO : L ≤ O
      · have hz : (L : Int) ≤ (O : Int) := by omega
        obtain ⟨O2, hO2⟩ : ∃ O2, O - L = O2 := ⟨_, rfl⟩
        have g3 : (O : Int) - (L : Int) = (O2 : Int) := by omega
        have g4 : IntKind.i64.wrap (O2 : Int) = (O2 : Int) := by rw [IntKind.wrap_i64]; omega
        have hOc : (if O ≥ L then O - L else O) = O2 := by rw [if_pos hLO, hO2]
        obtain ⟨p, hp⟩ : ∃ p, a + O2 = p := ⟨_, rfl⟩
        have g1 : (a : Int) + ((O2 : Nat) : Int) = (p : Int) := by omega
        have g2 : IntKind.i64.wrap (p : Int) = (p : Int) := by rw [IntKind.wrap_i64]; omega
        have hpn : p < n := by omega
        have ci := (HK.out x (by have := HS.out; omega)).1
        have cj := (HK.out p (by have := HS.out; omega)).1
        have fi := (HK.out x (by have := HS.out; omega)).2
        have fj := (HK.out p (by have := HS.out; omega)).2
        obtain ⟨xi, hxi⟩ : ∃ y, dk[x]! = y := ⟨_, rfl⟩
        obtain ⟨xj, hxj⟩ : ∃ y, dk[p]! = y := ⟨_, rfl⟩
        rw [hxi] at ci
        rw [hxj] at cj
        unfold encB at ci cj
        obtain ⟨Wn, hWn⟩ : ∃ Wn, (wr.setCell ⟨w.heap.size, 0, none⟩ (.int .u64 (R' : Int))) = Wn := ⟨_, rfl⟩
        have HKn : Hid (Holds encB Wn blk off dk) := Lib.hid (by rw [← hWn]; exact holds_other HK.out (by omega))
        have HBn : Hid (OnlyAt blk w.heap.size w Wn) := Lib.hid (by rw [← hWn]; exact only_two HB.out (Nat.le_refl _) _ _)
        have ci' := (HKn.out x (by have := HS.out; omega)).1
        have cj' := (HKn.out p (by have := HS.out; omega)).1
        have fi' := (HKn.out x (by have := HS.out; omega)).2
        have fj' := (HKn.out p (by have := HS.out; omega)).2
        rw [hxi] at ci'
        rw [hxj] at cj'
        unfold encB at ci' cj'
        have cs : ((Wn.drewN 4).setCell ⟨blk, off + x, none⟩ (.int .u8 (xj.toNat : Int))).cell? ⟨blk, off + p, none⟩ = some (.int .u8 (xj.toNat : Int)) := by
          by_cases e : x = p
          · rw [e] at ci' ⊢
            exact World.cell?_setCell_same _ _ _ ci'
          · rw [World.cell?_setCell_other _ _ _ _ (fun e2 => e (by injection e2 with _ e2; omega))]
            exact cj'
        have HCn : Hid (Wn.cell? ⟨w.heap.size, 0, none⟩ = some (.int .u64 (R' : Int)) ∧ Wn.frozen? ⟨w.heap.size, 0, none⟩ = false) := Lib.hid (by
          rw [← hWn]
          exact ⟨World.cell?_setCell_same _ _ _ kc, by rw [World.frozen?_setCell]; exact kf⟩)
        have HW : Hid (Holds encB (((Wn.drewN 4).setCell ⟨blk, off + x, none⟩ (.int .u8 (xj.toNat : Int))).setCell ⟨blk, off + p, none⟩ (.int .u8 (xi.toNat : Int))) blk off (swp dk x p)) := Lib.hid (by
          have := swap_holds2 (holds_drewN HKn.out 4) (i := x) (j := p) (by have := HS.out; omega) (by have := HS.out; omega)
          rw [hxi, hxj] at this
          exact this)
        have HWB : Hid (OnlyAt blk w.heap.size w (((Wn.drewN 4).setCell ⟨blk, off + x, none⟩ (.int .u8 (xj.toNat : Int))).setCell ⟨blk, off + p, none⟩ (.int .u8 (xi.toNat : Int)))) := Lib.hid (((only_drewN HBn.out 4).set (off + x) _).set (off + p) _)
        have HWC : Hid ((((Wn.drewN 4).setCell ⟨blk, off + x, none⟩ (.int .u8 (xj.toNat : Int))).setCell ⟨blk, off + p, none⟩ (.int .u8 (xi.toNat : Int))).cell? ⟨w.heap.size, 0, none⟩ = some (.int .u64 (R' : Int)) ∧ (((Wn.drewN 4).setCell ⟨blk, off + x, none⟩ (.int .u8 (xj.toNat : Int))).setCell ⟨blk, off + p, none⟩ (.int .u8 (xi.toNat : Int))).frozen? ⟨w.heap.size, 0, none⟩ = false) := Lib.hid (by
          rw [World.cell?_setCell_other _ _ _ _ (fun e2 => by injection e2 with e2; omega), World.cell?_setCell_other _ _ _ _ (fun e2 => by injection e2 with e2; omega), World.frozen?_setCell, World.frozen?_setCell]
          exact HCn.out)
        have HQ : Hid (bpRest a L M i0 (3 - (t + 1)) (t + 1) (xorNext r, swp dk x p) = breakPatterns d a b) := Lib.hid (by
          have h1 := bp_step a L M i0 t r dk (O2) (by omega) (by rw [← HN1.out.2]; exact hOc)
          rw [hx, hp] at h1
          rw [← HO.out, h1])
        have HS2 : Hid ((swp dk x p).size = n) := Lib.hid (by rw [size_swp]; exact HS.out)
        have ii0 : (0 : Int) ≤ (x : Int) := by omega
        have ii1 : (x : Int) < (n : Int) := by omega
        have jj0 : (0 : Int) ≤ (p : Int) := by omega
        have jj1 : (p : Int) < (n : Int) := by omega
        have xx1 : (x : Int) + 1 = ((i0 + (t + 1) : Nat) : Int) := by omega
        have RN := Lib.hid HN1.out.1
        rw [hWn] at CN
        clear hxi hxj HK HB ci cj fi fj HO HN1 hWn HKn HBn HCn kc kf hp hx
        go_wp2_with fail
        refine CN.out.mono ?_
        rintro e w' ⟨rfl, e9⟩
        rw [e9]
        clear e9 CN w'
        go_wp2_with fail
        go_region
        all_goals
          go_wp2
          go_roundg g'
          case measure => omega
          case rel =>
            exact ⟨t + 1, xorNext r, swp dk x p, by congr 1, by omega, HS2, HW, HWB, by rw [← RN.out]; exact HWC.out, HQ⟩
      · have hz : ¬ (L : Int) ≤ (O : Int) := by omega
        have hOc : (if O ≥ L then O - L else O) = O := by rw [if_neg (by omega)]
        obtain ⟨p, hp⟩ : ∃ p, a + O = p := ⟨_, rfl⟩
        have g1 : (a : Int) + ((O : Nat) : Int) = (p : Int) := by omega
        have g2 : IntKind.i64.wrap (p : Int) = (p : Int) := by rw [IntKind.wrap_i64]; omega
        have hpn : p < n := by omega
        have ci := (HK.out x (by have := HS.out; omega)).1
        have cj := (HK.out p (by have := HS.out; omega)).1
        have fi := (HK.out x (by have := HS.out; omega)).2
        have fj := (HK.out p (by have := HS.out; omega)).2
        obtain ⟨xi, hxi⟩ : ∃ y, dk[x]! = y := ⟨_, rfl⟩
        obtain ⟨xj, hxj⟩ : ∃ y, dk[p]! = y := ⟨_, rfl⟩
        rw [hxi] at ci
        rw [hxj] at cj
        unfold encB at ci cj
        obtain ⟨Wn, hWn⟩ : ∃ Wn, (wr.setCell ⟨w.heap.size, 0, none⟩ (.int .u64 (R' : Int))) = Wn := ⟨_, rfl⟩
        have HKn : Hid (Holds encB Wn blk off dk) := Lib.hid (by rw [← hWn]; exact holds_other HK.out (by omega))
        have HBn : Hid (OnlyAt blk w.heap.size w Wn) := Lib.hid (by rw [← hWn]; exact only_two HB.out (Nat.le_refl _) _ _)
        have ci' := (HKn.out x (by have := HS.out; omega)).1
        have cj' := (HKn.out p (by have := HS.out; omega)).1
        have fi' := (HKn.out x (by have := HS.out; omega)).2
        have fj' := (HKn.out p (by have := HS.out; omega)).2
        rw [hxi] at ci'
        rw [hxj] at cj'
        unfold encB at ci' cj'
        have cs : ((Wn.drewN 4).setCell ⟨blk, off + x, none⟩ (.int .u8 (xj.toNat : Int))).cell? ⟨blk, off + p, none⟩ = some (.int .u8 (xj.toNat : Int)) := by
          by_cases e : x = p
          · rw [e] at ci' ⊢
            exact World.cell?_setCell_same _ _ _ ci'
          · rw [World.cell?_setCell_other _ _ _ _ (fun e2 => e (by injection e2 with _ e2; omega))]
            exact cj'
        have HCn : Hid (Wn.cell? ⟨w.heap.size, 0, none⟩ = some (.int .u64 (R' : Int)) ∧ Wn.frozen? ⟨w.heap.size, 0, none⟩ = false) := Lib.hid (by
          rw [← hWn]
          exact ⟨World.cell?_setCell_same _ _ _ kc, by rw [World.frozen?_setCell]; exact kf⟩)
        have HW : Hid (Holds encB (((Wn.drewN 4).setCell ⟨blk, off + x, none⟩ (.int .u8 (xj.toNat : Int))).setCell ⟨blk, off + p, none⟩ (.int .u8 (xi.toNat : Int))) blk off (swp dk x p)) := Lib.hid (by
          have := swap_holds2 (holds_drewN HKn.out 4) (i := x) (j := p) (by have := HS.out; omega) (by have := HS.out; omega)
          rw [hxi, hxj] at this
          exact this)
        have HWB : Hid (OnlyAt blk w.heap.size w (((Wn.drewN 4).setCell ⟨blk, off + x, none⟩ (.int .u8 (xj.toNat : Int))).setCell ⟨blk, off + p, none⟩ (.int .u8 (xi.toNat : Int)))) := Lib.hid (((only_drewN HBn.out 4).set (off + x) _).set (off + p) _)
        have HWC : Hid ((((Wn.drewN 4).setCell ⟨blk, off + x, none⟩ (.int .u8 (xj.toNat : Int))).setCell ⟨blk, off + p, none⟩ (.int .u8 (xi.toNat : Int))).cell? ⟨w.heap.size, 0, none⟩ = some (.int .u64 (R' : Int)) ∧ (((Wn.drewN 4).setCell ⟨blk, off + x, none⟩ (.int .u8 (xj.toNat : Int))).setCell ⟨blk, off + p, none⟩ (.int .u8 (xi.toNat : Int))).frozen? ⟨w.heap.size, 0, none⟩ = false) := Lib.hid (by
          rw [World.cell?_setCell_other _ _ _ _ (fun e2 => by injection e2 with e2; omega), World.cell?_setCell_other _ _ _ _ (fun e2 => by injection e2 with e2; omega), World.frozen?_setCell, World.frozen?_setCell]
          exact HCn.out)
        have HQ : Hid (bpRest a L M i0 (3 - (t + 1)) (t + 1) (xorNext r, swp dk x p) = breakPatterns d a b) := Lib.hid (by
          have h1 := bp_step a L M i0 t r dk (O) (by omega) (by rw [← HN1.out.2]; exact hOc)
          rw [hx, hp] at h1
          rw [← HO.out, h1])
        have HS2 : Hid ((swp dk x p).size = n) := Lib.hid (by rw [size_swp]; exact HS.out)
        have ii0 : (0 : Int) ≤ (x : Int) := by omega
        have ii1 : (x : Int) < (n : Int) := by omega
        have jj0 : (0 : Int) ≤ (p : Int) := by omega
        have jj1 : (p : Int) < (n : Int) := by omega
        have xx1 : (x : Int) + 1 = ((i0 + (t + 1) : Nat) : Int) := by omega
        have RN := Lib.hid HN1.out.1
        rw [hWn] at CN
        clear hxi hxj HK HB ci cj fi fj HO HN1 hWn HKn HBn HCn kc kf hp hx
        go_wp2_with fail
        refine CN.out.mono ?_
        rintro e w' ⟨rfl, e9⟩
        rw [e9]
        clear e9 CN w'
        go_wp2_with fail
        go_region
        all_goals
          go_wp2
          go_roundg g'
          case measure => omega
          case rel =>
            exact ⟨t + 1, xorNext r, swp dk x p, by congr 1, by omega, HS2, HW, HWB, by rw [← RN.out]; exact HWC.out, HQ⟩
    · obtain rfl : t = 3 := by omega
      obtain ⟨x, hx⟩ : ∃ x, i0 + 3 = x := ⟨_, rfl⟩
      rw [hx]
      have hxz : ¬ (x : Int) ≤ (j1 : Int) := by omega
      have HE : Hid (dk = breakPatterns d a b) := Lib.hid (by
        have := HO.out
        rw [show 3 - 3 = 0 from rfl] at this
        exact this)
      clear HO kc kf CX
      go_wp2
      first | go_end0 | (refine bodyPost_ret (results_none rfl _ _ _) rfl ?_)
      exact ⟨rfl, by rw [← HE.out]; exact HK.out, HB.out⟩
end Go.Proofs.YtnpgmekgmelamaaGreat
