/-
  What is proved: what slices.Sort's choosePivot returns on more than twelve bytes in memory; nothing that lay there is changed.
-/
import Derived.Test.YtchobpfdmkgnoaaDfMed
import Derived.Sort.LotD4
import Derived.Sort.LotC
namespace Go.Proofs.Ytchobpfdmkgnoaa
open Go.RowKit Go.Shelf Go.Sort

theorem med_below {blk off sb s : Nat} {d : Array UInt8} {w0 w1 W : World} (h : MedAt blk off sb d s w1 W) (hb : RowKit.Below w0.heap.size w0 w1) (hs : w0.heap.size ≤ sb) : RowKit.Below w0.heap.size w0 W := by
  refine ⟨by rw [h.only.os, hb.os], by rw [h.only.tape, hb.tape], by rw [h.only.output, hb.output], Nat.le_trans hb.size h.only.size, fun k hk => ?_⟩
  rw [h.only.block k (by have := hb.size; omega) (by omega), hb.block k hk]

set_option maxRecDepth 100000 in
set_option maxHeartbeats 4000000 in
/-- slices.choosePivotOrdered. -/
theorem choose_any (blk off cap a b : Nat) (d : Array UInt8) (w : World) (hH : Holds encB w blk off d) (hlt : blk < w.heap.size) (hab : a + 12 < b) (hb : b ≤ d.size) (hsz : d.size ≤ 1000000) :
    Calls Try.prog 75 #[.slice (some ⟨blk, off, none⟩) d.size cap, .int .i64 (a : Int), .int .i64 (b : Int)] w fun e w' => e = .returned (.tuple #[.int .i64 ((choosePivot ltB d a b).1 : Int), .int .i64 (hintCode (choosePivot ltB d a b).2)]) ∧ RowKit.Below w.heap.size w w' := by
  obtain ⟨w1, hw1⟩ : ∃ w1, w.alloc (.cells #[.int .i64 0] 3) = w1 := ⟨_, rfl⟩
  have hb1 : RowKit.Below w.heap.size w w1 := by rw [← hw1]; exact (RowKit.Below.refl _ w).alloc (Nat.le_refl _) _
  have hz1 : w1.heap.size = w.heap.size + 1 := by rw [← hw1]; exact World.size_alloc ..
  have hM : MedAt blk off w.heap.size d 0 w1 w1 := by
    refine ⟨fun k hk => ?_, ⟨?_, ?_⟩, OnlyAt.refl _ _ _⟩
    · obtain ⟨h1, h2⟩ := hH k hk
      exact ⟨by rw [World.cell?_of_block (w := w) (hb1.block blk hlt)]; exact h1, by rw [World.frozen?_of_block (w := w) (hb1.block blk hlt)]; exact h2⟩
    · rw [← hw1]; simp
    · rw [← hw1]
      have := World.alloc_heap_new w (.cells #[.int .i64 0] 3)
      unfold World.frozen?
      dsimp only
      rw [this]
      rfl
  have hne : blk ≠ w.heap.size := by omega
  have CA := Lib.hid fun (W : World) (x s : Nat) (h : MedAt blk off w.heap.size d s w1 W) (h1 : 1 ≤ x) (h2 : x + 1 < d.size) (hs : s ≤ 900) => adjacent_any blk off cap x w.heap.size s d w1 W h (by omega) hne h1 h2 hs hsz
  have CM := Lib.hid fun (W : World) (x y z s : Nat) (h : MedAt blk off w.heap.size d s w1 W) (hx : x < d.size) (hy : y < d.size) (hzz : z < d.size) (hs : s ≤ 900) => median_any blk off cap x y z w.heap.size s d w1 W h (by omega) hne hx hy hzz hs hsz
  rw [choosePivot_eq]
  dsimp only
  obtain ⟨l, hl⟩ : ∃ l, b - a = l := ⟨_, rfl⟩
  obtain ⟨q, hq⟩ : ∃ q, l / 4 = q := ⟨_, rfl⟩
  obtain ⟨q2, hq2⟩ : ∃ q2, q * 2 = q2 := ⟨_, rfl⟩
  obtain ⟨q3, hq3⟩ : ∃ q3, q * 3 = q3 := ⟨_, rfl⟩
  obtain ⟨i, hi⟩ : ∃ i, a + q = i := ⟨_, rfl⟩
  obtain ⟨j, hj⟩ : ∃ j, a + q2 = j := ⟨_, rfl⟩
  obtain ⟨k, hk⟩ : ∃ k, a + q3 = k := ⟨_, rfl⟩
  have HR : Hid (rawPivot ltB d a b = if l ≥ 50 then median ltB d (medianAdjacent ltB d i 0).1 (medianAdjacent ltB d j (medianAdjacent ltB d i 0).2).1
        (medianAdjacent ltB d k (medianAdjacent ltB d j (medianAdjacent ltB d i 0).2).2).1
        (medianAdjacent ltB d k (medianAdjacent ltB d j (medianAdjacent ltB d i 0).2).2).2
      else median ltB d i j k 0) := Lib.hid (by
    unfold rawPivot
    rw [hl, if_pos (by omega), hq, Nat.mul_one, hi, hq2, hj, hq3, hk])
  obtain ⟨RP, hRP⟩ : ∃ RP, rawPivot ltB d a b = RP := ⟨_, rfl⟩
  rw [hRP] at HR
  rw [hRP]
  have e1 : (b : Int) - (a : Int) = (l : Int) := by omega
  have e2 : IntKind.i64.wrap (l : Int) = (l : Int) := by rw [IntKind.wrap_i64]; omega
  have e3 : (l : Int).tdiv 4 = (q : Int) := by
    have : (l : Int).tdiv 4 = (l : Int) / 4 := Int.tdiv_eq_ediv_of_nonneg (by omega)
    omega
  have e4 : (q : Int) * 2 = (q2 : Int) := by omega
  have e5 : (q : Int) * 3 = (q3 : Int) := by omega
  have e6 : (a : Int) + (q : Int) = (i : Int) := by omega
  have e7 : (a : Int) + (q2 : Int) = (j : Int) := by omega
  have e8 : (a : Int) + (q3 : Int) = (k : Int) := by omega
  have f1 : IntKind.i64.wrap (q : Int) = (q : Int) := by rw [IntKind.wrap_i64]; omega
  have f2 : IntKind.i64.wrap (q2 : Int) = (q2 : Int) := by rw [IntKind.wrap_i64]; omega
  have f3 : IntKind.i64.wrap (q3 : Int) = (q3 : Int) := by rw [IntKind.wrap_i64]; omega
  have f4 : IntKind.i64.wrap (i : Int) = (i : Int) := by rw [IntKind.wrap_i64]; omega
  have f5 : IntKind.i64.wrap (j : Int) = (j : Int) := by rw [IntKind.wrap_i64]; omega
  have f6 : IntKind.i64.wrap (k : Int) = (k : Int) := by rw [IntKind.wrap_i64]; omega
  have g1 : 1 ≤ i := by omega
  have g2 : i + 1 < d.size := by omega
  have g3 : 1 ≤ j := by omega
  have g4 : j + 1 < d.size := by omega
  have g5 : 1 ≤ k := by omega
  have g6 : k + 1 < d.size := by omega
  have l8 : (8 : Int) ≤ (l : Int) := by omega
  obtain ⟨n, hn⟩ : ∃ n, d.size = n := ⟨_, rfl⟩
  rw [hn] at CA CM g2 g4 g6
  rw [hn]
  subst hw1
  clear hl hq hq2 hq3 hi hj hk hH hne hRP hb hn hsz hab
  by_cases h50 : 50 ≤ l
  · have z50 : (50 : Int) ≤ (l : Int) := by omega
    have HR2 : Hid (median ltB d (medianAdjacent ltB d i 0).1 (medianAdjacent ltB d j (medianAdjacent ltB d i 0).2).1
        (medianAdjacent ltB d k (medianAdjacent ltB d j (medianAdjacent ltB d i 0).2).2).1
        (medianAdjacent ltB d k (medianAdjacent ltB d j (medianAdjacent ltB d i 0).2).2).2 = RP) := Lib.hid (by rw [HR.out, if_pos h50])
    clear HR h50
    go_enter Try.func75, Try.ntmps75
    go_wp2_with fail
    refine (CA.out _ _ _ hM g1 g2 (by decide)).mono ?_
    rintro e w2 ⟨m1, s1, rfl, r1, hm1, hs1, hM1⟩
    go_wp2_with fail
    refine (CA.out _ _ _ hM1 g3 g4 (by omega)).mono ?_
    rintro e w3 ⟨m2, s2, rfl, r2, hm2, hs2, hM2⟩
    go_wp2_with fail
    refine (CA.out _ _ _ hM2 g5 g6 (by omega)).mono ?_
    rintro e w4 ⟨m3, s3, rfl, r3, hm3, hs3, hM3⟩
    go_wp2_with fail
    refine (CM.out _ _ _ _ _ hM3 hm1 hm2 hm3 (by omega)).mono ?_
    rintro e w5 ⟨m, s, rfl, r4, hm, hs, hM5⟩
    have HRP : Hid (RP = (m, s)) := Lib.hid (by rw [← HR2.out, r1]; dsimp only; rw [r2]; dsimp only; rw [r3]; dsimp only; rw [r4])
    have hbw := med_below hM5 hb1 (Nat.le_refl _)
    obtain ⟨kc, kf⟩ := hM5.cnt
    clear HR2 CA CM r1 r2 r3 r4 hM hM1 hM2 hM3 hM5 hb1
    by_cases h0 : s = 0
    · have z0 : (s : Int) = 0 := by omega
      have HV : Hid ((RP.1 : Int) = (m : Int) ∧ hintCode (hintOf RP.2) = 1) := Lib.hid (by rw [HRP.out, h0]; exact ⟨rfl, rfl⟩)
      subst h0
      clear HRP
      go_wp2
      refine bodyPost_ret (v := .tuple #[.int .i64 (m : Int), .int .i64 1]) (by simp [results, Try.results75, go_sem]) rfl ?_
      exact ⟨by rw [HV.out.1, HV.out.2], hbw⟩
    · by_cases h12 : s = 12
      · have HV : Hid ((RP.1 : Int) = (m : Int) ∧ hintCode (hintOf RP.2) = 2) := Lib.hid (by rw [HRP.out, h12]; exact ⟨rfl, rfl⟩)
        subst h12
        clear HRP
        go_wp2
        refine bodyPost_ret (v := .tuple #[.int .i64 (m : Int), .int .i64 2]) (by simp [results, Try.results75, go_sem]) rfl ?_
        exact ⟨by rw [HV.out.1, HV.out.2], hbw⟩
      · have HV : Hid ((RP.1 : Int) = (m : Int) ∧ hintCode (hintOf RP.2) = 0) := Lib.hid (by
          rw [HRP.out]
          unfold hintOf
          rw [if_neg h0, if_neg h12]
          exact ⟨rfl, rfl⟩)
        have z0 : ¬ (s : Int) = 0 := by omega
        have z12 : ¬ (s : Int) = 12 := by omega
        have z0' : ((s : Int) == 0) = false := by simpa using z0
        have z12' : ((s : Int) == 12) = false := by simpa using z12
        clear HRP h0 h12
        go_wp2
        refine bodyPost_ret (v := .tuple #[.int .i64 (m : Int), .int .i64 0]) (by simp [results, Try.results75, go_sem]) rfl ?_
        exact ⟨by rw [HV.out.1, HV.out.2], hbw⟩
  · have z50 : ¬ (50 : Int) ≤ (l : Int) := by omega
    have HR2 : Hid (median ltB d i j k 0 = RP) := Lib.hid (by rw [HR.out, if_neg (by omega)])
    clear HR h50
    go_enter Try.func75, Try.ntmps75
    go_wp2_with fail
    refine (CM.out _ _ _ _ _ hM (by omega) (by omega) (by omega) (by decide)).mono ?_
    rintro e w5 ⟨m, s, rfl, r4, hm, hs, hM5⟩
    have HRP : Hid (RP = (m, s)) := Lib.hid (by rw [← HR2.out, r4])
    have hbw := med_below hM5 hb1 (Nat.le_refl _)
    obtain ⟨kc, kf⟩ := hM5.cnt
    clear HR2 CA CM r4 hM hM5 hb1
    by_cases h0 : s = 0
    · have z0 : (s : Int) = 0 := by omega
      have HV : Hid ((RP.1 : Int) = (m : Int) ∧ hintCode (hintOf RP.2) = 1) := Lib.hid (by rw [HRP.out, h0]; exact ⟨rfl, rfl⟩)
      subst h0
      clear HRP
      go_wp2
      refine bodyPost_ret (v := .tuple #[.int .i64 (m : Int), .int .i64 1]) (by simp [results, Try.results75, go_sem]) rfl ?_
      exact ⟨by rw [HV.out.1, HV.out.2], hbw⟩
    · by_cases h12 : s = 12
      · have HV : Hid ((RP.1 : Int) = (m : Int) ∧ hintCode (hintOf RP.2) = 2) := Lib.hid (by rw [HRP.out, h12]; exact ⟨rfl, rfl⟩)
        subst h12
        clear HRP
        go_wp2
        refine bodyPost_ret (v := .tuple #[.int .i64 (m : Int), .int .i64 2]) (by simp [results, Try.results75, go_sem]) rfl ?_
        exact ⟨by rw [HV.out.1, HV.out.2], hbw⟩
      · have HV : Hid ((RP.1 : Int) = (m : Int) ∧ hintCode (hintOf RP.2) = 0) := Lib.hid (by
          rw [HRP.out]
          unfold hintOf
          rw [if_neg h0, if_neg h12]
          exact ⟨rfl, rfl⟩)
        have z0 : ¬ (s : Int) = 0 := by omega
        have z12 : ¬ (s : Int) = 12 := by omega
        have z0' : ((s : Int) == 0) = false := by simpa using z0
        have z12' : ((s : Int) == 12) = false := by simpa using z12
        clear HRP h0 h12
        go_wp2
        refine bodyPost_ret (v := .tuple #[.int .i64 (m : Int), .int .i64 0]) (by simp [results, Try.results75, go_sem]) rfl ?_
        exact ⟨by rw [HV.out.1, HV.out.2], hbw⟩
end Go.Proofs.Ytchobpfdmkgnoaa
