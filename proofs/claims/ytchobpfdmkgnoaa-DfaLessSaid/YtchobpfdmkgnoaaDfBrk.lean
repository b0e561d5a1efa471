/-
  What is proved: what slices.Sort's breakPatterns does to bytes in memory. Nothing else that lay in memory is changed.
-/
import Derived.Test.YtchobpfdmkgnoaaDfPeq
import Derived.Test.YtchobpfdmkgnoaaShelfX
import Derived.Sort.Walk7
namespace Go.Proofs.Ytchobpfdmkgnoaa
open Go.RowKit Go.Shelf Go.Sort

theorem only_two {s B nb : Nat} {a w : World} (h : OnlyAt s B a w) (hB : B ≤ nb) (i : Nat) (v : Value) : OnlyAt s B a (w.setCell ⟨nb, i, none⟩ v) := by
  refine ⟨h.os, h.tape, h.output, by simpa [World.setCell] using h.size, fun k hk hs => ?_⟩
  rw [RowKit.Below.heap_setCell _ _ _ _ (by show k ≠ nb; omega)]
  exact h.block k hk hs
theorem holds_other {W : World} {blk off nb i : Nat} {d : Array UInt8} {v : Value} (h : Holds encB W blk off d) (hne : blk ≠ nb) : Holds encB (W.setCell ⟨nb, i, none⟩ v) blk off d := fun k hk => by
  obtain ⟨h1, h2⟩ := h k hk
  refine ⟨?_, by rw [World.frozen?_setCell]; exact h2⟩
  rw [World.cell?_setCell_other _ _ _ _ (fun e => hne (by injection e with e; exact e.symm))]
  exact h1

set_option maxRecDepth 100000 in
set_option maxHeartbeats 4000000 in
/-- slices.breakPatternsOrdered. -/
theorem break_any (blk off cap a b : Nat) (d : Array UInt8) (w : World) (hH : Holds encB w blk off d) (hlt : blk < w.heap.size) (hab : a + 8 ≤ b) (hb : b ≤ d.size) (hsz : d.size ≤ 1000000) :
    Calls Try.prog 74 #[.slice (some ⟨blk, off, none⟩) d.size cap, .int .i64 (a : Int), .int .i64 (b : Int)] w fun e w' => e = .returned (.tuple #[]) ∧ Holds encB w' blk off (breakPatterns d a b) ∧ OnlyAt blk w.heap.size w w' := by
  obtain ⟨L, hL⟩ : ∃ L, b - a = L := ⟨_, rfl⟩
  obtain ⟨q, hq⟩ : ∃ q, L / 4 = q := ⟨_, rfl⟩
  obtain ⟨q2, hq2⟩ : ∃ q2, q * 2 = q2 := ⟨_, rfl⟩
  obtain ⟨j0, hj0⟩ : ∃ j0, a + q2 = j0 := ⟨_, rfl⟩
  obtain ⟨i0, hi0⟩ : ∃ i0, j0 - 1 = i0 := ⟨_, rfl⟩
  obtain ⟨j1, hj1⟩ : ∃ j1, j0 + 1 = j1 := ⟨_, rfl⟩
  obtain ⟨M, hM⟩ : ∃ M : Nat, M = 1 <<< bitsLen L := ⟨_, rfl⟩
  have hM1 : 1 ≤ M := by rw [hM, Nat.one_shiftLeft]; exact Nat.two_pow_pos _
  have hM2 : M ≤ 2 * L := by rw [hM, Nat.one_shiftLeft]; exact two_pow_bitsLen_le (by omega)
  have HBP : Hid (breakPatterns d a b = bpRest a L M i0 3 0 (UInt64.ofNat L, d)) := Lib.hid (by
    have := breakPatterns_eq d a L (by omega)
    rw [show a + L = b by omega, ← hM, hq, hq2, hj0, hi0] at this
    exact this)
  have CP : Hid (∀ w, Calls Try.prog 86 #[.int .i64 (L : Int)] w fun e w' => e = .returned (.int .u64 (M : Int)) ∧ w' = w) := Lib.hid (by
    rw [hM]
    exact fun w => AnyF.nextPowerOfTwo Try.laysPow L (by omega) w)
  have CX : Hid (∀ (w : World) (rb X : Nat), X < 18446744073709551616 → w.cell? ⟨rb, 0, none⟩ = some (.int .u64 (X : Int)) → w.frozen? ⟨rb, 0, none⟩ = false → Calls Try.prog 87 #[.pointer (some ⟨rb, 0, none⟩)] w fun e w' => e = .returned (.int .u64 (xorNextN X : Nat)) ∧ w' = (w.setCell ⟨rb, 0, none⟩ (.int .u64 (xorNextN X : Nat))).drewN 3) := Lib.hid (fun w rb X hX hc hf => AnyF.xorshift_Next Try.laysXor rb 0 X hX w hc hf)
  have e1 : (b : Int) - (a : Int) = (L : Int) := by omega
  have e2 : IntKind.i64.wrap (L : Int) = (L : Int) := by rw [IntKind.wrap_i64]; omega
  have e3 : (L : Int).tdiv 4 = (q : Int) := by
    have : (L : Int).tdiv 4 = (L : Int) / 4 := Int.tdiv_eq_ediv_of_nonneg (by omega)
    omega
  have e4 : (q : Int) * 2 = (q2 : Int) := by omega
  have e5 : (a : Int) + (q2 : Int) = (j0 : Int) := by omega
  have e6 : (j0 : Int) - 1 = (i0 : Int) := by omega
  have e7 : (j0 : Int) + 1 = (j1 : Int) := by omega
  have f1 : IntKind.i64.wrap (q : Int) = (q : Int) := by rw [IntKind.wrap_i64]; omega
  have f2 : IntKind.i64.wrap (q2 : Int) = (q2 : Int) := by rw [IntKind.wrap_i64]; omega
  have f3 : IntKind.i64.wrap (j0 : Int) = (j0 : Int) := by rw [IntKind.wrap_i64]; omega
  have f4 : IntKind.i64.wrap (i0 : Int) = (i0 : Int) := by rw [IntKind.wrap_i64]; omega
  have f5 : IntKind.i64.wrap (j1 : Int) = (j1 : Int) := by rw [IntKind.wrap_i64]; omega
  have l8 : (8 : Int) ≤ (L : Int) := by omega
  have hi1 : i0 + 2 = j1 := by omega
  have hi2 : j1 < b := by omega
  obtain ⟨n, hn⟩ : ∃ n, d.size = n := ⟨_, rfl⟩
  have HN : Hid (d.size = n) := hn
  have HH : Hid (Holds encB w blk off d) := hH
  rw [hn] at hb hsz
  rw [hn]
  have hLw : (UInt64.ofNat L).toNat = L := by simp; omega
  clear hM hq hq2 hj0 hi0 hj1 hn hH
  go_enter Try.func74, Try.ntmps74
  go_wp2_with fail
  refine (CP.out _).mono ?_
  rintro e w1 ⟨rfl, e0⟩
  rw [e0]
  clear e0 w1
  go_wp2_with fail
  go_loopg [9] 3 (fun gk s9 wr => ∃ (t : Nat) (r : UInt64) (dk : Array UInt8), s9 = .int .i64 ((i0 + t : Nat) : Int) ∧ t + gk = 3 ∧ Hid (dk.size = n) ∧ Hid (Holds encB wr blk off dk) ∧ Hid (OnlyAt blk w.heap.size w wr) ∧ (wr.cell? ⟨w.heap.size, 0, none⟩ = some (.int .u64 (r.toNat : Int)) ∧ wr.frozen? ⟨w.heap.size, 0, none⟩ = false) ∧ Hid (bpRest a L M i0 (3 - t) t (r, dk) = breakPatterns d a b))
  case atStart =>
    refine ⟨0, UInt64.ofNat L, d, by go_num, rfl, HN, Lib.hid ?_, Lib.hid ?_, ⟨?_, ?_⟩, Lib.hid HBP.out.symm⟩
    · intro k hk
      obtain ⟨h1, h2⟩ := HH.out k hk
      exact ⟨by rw [World.cell?_of_block (w := w) (RowKit.Below.heap_alloc _ _ _ hlt)]; exact h1, by rw [World.frozen?_of_block (w := w) (RowKit.Below.heap_alloc _ _ _ hlt)]; exact h2⟩
    · exact ⟨rfl, rfl, rfl, by simp, fun k hk _ => RowKit.Below.heap_alloc _ _ _ hk⟩
    · rw [hLw, World.cell?_alloc_new]; rfl
    · have := World.alloc_heap_new w (.cells #[.int .u64 (L : Int)] 125)
      unfold World.frozen?
      dsimp only
      rw [this]
      rfl
  case round =>
    clear HH HN HBP CP
    obtain ⟨t, r, dk, rfl, htg, HS, HK, HB, ⟨kc, kf⟩, HO⟩ := hrel
    by_cases ht : t < 3
    · obtain ⟨x, hx⟩ : ∃ x, i0 + t = x := ⟨_, rfl⟩
      rw [hx]
      have hxz : (x : Int) ≤ (j1 : Int) := by omega
      obtain ⟨R, hR⟩ : ∃ R : Nat, r.toNat = R := ⟨_, rfl⟩
      have lR : R < 18446744073709551616 := by rw [← hR]; exact r.toNat_lt
      obtain ⟨R', hR'⟩ : ∃ R' : Nat, xorNextN R = R' := ⟨_, rfl⟩
      have lR' : R' < 18446744073709551616 := by rw [← hR']; exact xorNextN_lt R lR
      obtain ⟨O, hO⟩ : ∃ O : Nat, R' &&& (M - 1) = O := ⟨_, rfl⟩
      have lO : O ≤ M - 1 := by rw [← hO]; exact Nat.and_le_right
      have eAnd : bits .and .u64 (R' : Int) ((M : Int) - 1) = (O : Int) := by
        rw [show ((M : Int) - 1) = ((M - 1 : Nat) : Int) by omega, bits_and_u64_nat _ _ lR' (by omega), hO]
      have HN1 : Hid (R' = (xorNext r).toNat ∧ O = (xorNext r).toNat &&& (M - 1)) := Lib.hid (by
        have e : R' = (xorNext r).toNat := by rw [← hR', ← hR, xorNext_toNat]
        exact ⟨e, by rw [← hO, e]⟩)
      rw [hR] at kc
      have CN : Hid (Calls Try.prog 87 #[.pointer (some ⟨w.heap.size, 0, none⟩)] wr fun e w' => e = .returned (.int .u64 (R' : Int)) ∧ w' = (wr.setCell ⟨w.heap.size, 0, none⟩ (.int .u64 (R' : Int))).drewN 3) := Lib.hid (by
        have := CX.out wr w.heap.size R lR kc kf
        rwa [hR'] at this)
      have hxb : x < b := by omega
      obtain ⟨g', rfl⟩ : ∃ g', gk = g' + 1 := ⟨gk - 1, by omega⟩
      clear hR hR' hO CX
      by_cases hLO : L ≤ O
      · have hz : (L : Int) ≤ (O : Int) := by omega
        obtain ⟨O2, hO2⟩ : ∃ O2, O - L = O2 := ⟨_, rfl⟩
        have g3 : (O : Int) - (L : Int) = (O2 : Int) := by omega
        have g4 : IntKind.i64.wrap (O2 : Int) = (O2 : Int) := by rw [IntKind.wrap_i64]; omega
        have hOc : (if O ≥ L then O - L else O) = O2 := by rw [if_pos hLO, hO2]
        obtain ⟨p, hp⟩ : ∃ p, a + O2 = p := ⟨_, rfl⟩
        have g1 : (a : Int) + ((O2 : Nat) : Int) = (p : Int) := by omega
        have g2 : IntKind.i64.wrap (p : Int) = (p : Int) := by rw [IntKind.wrap_i64]; omega
        have hpn : p < n := by omega
        have ci := (HK.out x (by have := HS.out; omega)).1
        have cj := (HK.out p (by have := HS.out; omega)).1
        have fi := (HK.out x (by have := HS.out; omega)).2
        have fj := (HK.out p (by have := HS.out; omega)).2
        obtain ⟨xi, hxi⟩ : ∃ y, dk[x]! = y := ⟨_, rfl⟩
        obtain ⟨xj, hxj⟩ : ∃ y, dk[p]! = y := ⟨_, rfl⟩
        rw [hxi] at ci
        rw [hxj] at cj
        unfold encB at ci cj
        obtain ⟨Wn, hWn⟩ : ∃ Wn, (wr.setCell ⟨w.heap.size, 0, none⟩ (.int .u64 (R' : Int))) = Wn := ⟨_, rfl⟩
        have HKn : Hid (Holds encB Wn blk off dk) := Lib.hid (by rw [← hWn]; exact holds_other HK.out (by omega))
        have HBn : Hid (OnlyAt blk w.heap.size w Wn) := Lib.hid (by rw [← hWn]; exact only_two HB.out (Nat.le_refl _) _ _)
        have ci' := (HKn.out x (by have := HS.out; omega)).1
        have cj' := (HKn.out p (by have := HS.out; omega)).1
        have fi' := (HKn.out x (by have := HS.out; omega)).2
        have fj' := (HKn.out p (by have := HS.out; omega)).2
        rw [hxi] at ci'
        rw [hxj] at cj'
        unfold encB at ci' cj'
        have cs : ((Wn.drewN 4).setCell ⟨blk, off + x, none⟩ (.int .u8 (xj.toNat : Int))).cell? ⟨blk, off + p, none⟩ = some (.int .u8 (xj.toNat : Int)) := by
          by_cases e : x = p
          · rw [e] at ci' ⊢
            exact World.cell?_setCell_same _ _ _ ci'
          · rw [World.cell?_setCell_other _ _ _ _ (fun e2 => e (by injection e2 with _ e2; omega))]
            exact cj'
        have HCn : Hid (Wn.cell? ⟨w.heap.size, 0, none⟩ = some (.int .u64 (R' : Int)) ∧ Wn.frozen? ⟨w.heap.size, 0, none⟩ = false) := Lib.hid (by
          rw [← hWn]
          exact ⟨World.cell?_setCell_same _ _ _ kc, by rw [World.frozen?_setCell]; exact kf⟩)
        have HW : Hid (Holds encB (((Wn.drewN 4).setCell ⟨blk, off + x, none⟩ (.int .u8 (xj.toNat : Int))).setCell ⟨blk, off + p, none⟩ (.int .u8 (xi.toNat : Int))) blk off (swp dk x p)) := Lib.hid (by
          have := swap_holds2 (holds_drewN HKn.out 4) (i := x) (j := p) (by have := HS.out; omega) (by have := HS.out; omega)
          rw [hxi, hxj] at this
          exact this)
        have HWB : Hid (OnlyAt blk w.heap.size w (((Wn.drewN 4).setCell ⟨blk, off + x, none⟩ (.int .u8 (xj.toNat : Int))).setCell ⟨blk, off + p, none⟩ (.int .u8 (xi.toNat : Int)))) := Lib.hid (((only_drewN HBn.out 4).set (off + x) _).set (off + p) _)
        have HWC : Hid ((((Wn.drewN 4).setCell ⟨blk, off + x, none⟩ (.int .u8 (xj.toNat : Int))).setCell ⟨blk, off + p, none⟩ (.int .u8 (xi.toNat : Int))).cell? ⟨w.heap.size, 0, none⟩ = some (.int .u64 (R' : Int)) ∧ (((Wn.drewN 4).setCell ⟨blk, off + x, none⟩ (.int .u8 (xj.toNat : Int))).setCell ⟨blk, off + p, none⟩ (.int .u8 (xi.toNat : Int))).frozen? ⟨w.heap.size, 0, none⟩ = false) := Lib.hid (by
          rw [World.cell?_setCell_other _ _ _ _ (fun e2 => by injection e2 with e2; omega), World.cell?_setCell_other _ _ _ _ (fun e2 => by injection e2 with e2; omega), World.frozen?_setCell, World.frozen?_setCell]
          exact HCn.out)
        have HQ : Hid (bpRest a L M i0 (3 - (t + 1)) (t + 1) (xorNext r, swp dk x p) = breakPatterns d a b) := Lib.hid (by
          have h1 := bp_step a L M i0 t r dk (O2) (by omega) (by rw [← HN1.out.2]; exact hOc)
          rw [hx, hp] at h1
          rw [← HO.out, h1])
        have HS2 : Hid ((swp dk x p).size = n) := Lib.hid (by rw [size_swp]; exact HS.out)
        have ii0 : (0 : Int) ≤ (x : Int) := by omega
        have ii1 : (x : Int) < (n : Int) := by omega
        have jj0 : (0 : Int) ≤ (p : Int) := by omega
        have jj1 : (p : Int) < (n : Int) := by omega
        have xx1 : (x : Int) + 1 = ((i0 + (t + 1) : Nat) : Int) := by omega
        have RN := Lib.hid HN1.out.1
        rw [hWn] at CN
        clear hxi hxj HK HB ci cj fi fj HO HN1 hWn HKn HBn HCn kc kf hp hx
        go_wp2_with fail
        refine CN.out.mono ?_
        rintro e w' ⟨rfl, e9⟩
        rw [e9]
        clear e9 CN w'
        go_wp2_with fail
        go_region
        all_goals
          go_wp2
          go_roundg g'
          case measure => omega
          case rel =>
            exact ⟨t + 1, xorNext r, swp dk x p, by congr 1, by omega, HS2, HW, HWB, by rw [← RN.out]; exact HWC.out, HQ⟩
      · have hz : ¬ (L : Int) ≤ (O : Int) := by omega
        have hOc : (if O ≥ L then O - L else O) = O := by rw [if_neg (by omega)]
        obtain ⟨p, hp⟩ : ∃ p, a + O = p := ⟨_, rfl⟩
        have g1 : (a : Int) + ((O : Nat) : Int) = (p : Int) := by omega
        have g2 : IntKind.i64.wrap (p : Int) = (p : Int) := by rw [IntKind.wrap_i64]; omega
        have hpn : p < n := by omega
        have ci := (HK.out x (by have := HS.out; omega)).1
        have cj := (HK.out p (by have := HS.out; omega)).1
        have fi := (HK.out x (by have := HS.out; omega)).2
        have fj := (HK.out p (by have := HS.out; omega)).2
        obtain ⟨xi, hxi⟩ : ∃ y, dk[x]! = y := ⟨_, rfl⟩
        obtain ⟨xj, hxj⟩ : ∃ y, dk[p]! = y := ⟨_, rfl⟩
        rw [hxi] at ci
        rw [hxj] at cj
        unfold encB at ci cj
        obtain ⟨Wn, hWn⟩ : ∃ Wn, (wr.setCell ⟨w.heap.size, 0, none⟩ (.int .u64 (R' : Int))) = Wn := ⟨_, rfl⟩
        have HKn : Hid (Holds encB Wn blk off dk) := Lib.hid (by rw [← hWn]; exact holds_other HK.out (by omega))
        have HBn : Hid (OnlyAt blk w.heap.size w Wn) := Lib.hid (by rw [← hWn]; exact only_two HB.out (Nat.le_refl _) _ _)
        have ci' := (HKn.out x (by have := HS.out; omega)).1
        have cj' := (HKn.out p (by have := HS.out; omega)).1
        have fi' := (HKn.out x (by have := HS.out; omega)).2
        have fj' := (HKn.out p (by have := HS.out; omega)).2
        rw [hxi] at ci'
        rw [hxj] at cj'
        unfold encB at ci' cj'
        have cs : ((Wn.drewN 4).setCell ⟨blk, off + x, none⟩ (.int .u8 (xj.toNat : Int))).cell? ⟨blk, off + p, none⟩ = some (.int .u8 (xj.toNat : Int)) := by
          by_cases e : x = p
          · rw [e] at ci' ⊢
            exact World.cell?_setCell_same _ _ _ ci'
          · rw [World.cell?_setCell_other _ _ _ _ (fun e2 => e (by injection e2 with _ e2; omega))]
            exact cj'
        have HCn : Hid (Wn.cell? ⟨w.heap.size, 0, none⟩ = some (.int .u64 (R' : Int)) ∧ Wn.frozen? ⟨w.heap.size, 0, none⟩ = false) := Lib.hid (by
          rw [← hWn]
          exact ⟨World.cell?_setCell_same _ _ _ kc, by rw [World.frozen?_setCell]; exact kf⟩)
        have HW : Hid (Holds encB (((Wn.drewN 4).setCell ⟨blk, off + x, none⟩ (.int .u8 (xj.toNat : Int))).setCell ⟨blk, off + p, none⟩ (.int .u8 (xi.toNat : Int))) blk off (swp dk x p)) := Lib.hid (by
          have := swap_holds2 (holds_drewN HKn.out 4) (i := x) (j := p) (by have := HS.out; omega) (by have := HS.out; omega)
          rw [hxi, hxj] at this
          exact this)
        have HWB : Hid (OnlyAt blk w.heap.size w (((Wn.drewN 4).setCell ⟨blk, off + x, none⟩ (.int .u8 (xj.toNat : Int))).setCell ⟨blk, off + p, none⟩ (.int .u8 (xi.toNat : Int)))) := Lib.hid (((only_drewN HBn.out 4).set (off + x) _).set (off + p) _)
        have HWC : Hid ((((Wn.drewN 4).setCell ⟨blk, off + x, none⟩ (.int .u8 (xj.toNat : Int))).setCell ⟨blk, off + p, none⟩ (.int .u8 (xi.toNat : Int))).cell? ⟨w.heap.size, 0, none⟩ = some (.int .u64 (R' : Int)) ∧ (((Wn.drewN 4).setCell ⟨blk, off + x, none⟩ (.int .u8 (xj.toNat : Int))).setCell ⟨blk, off + p, none⟩ (.int .u8 (xi.toNat : Int))).frozen? ⟨w.heap.size, 0, none⟩ = false) := Lib.hid (by
          rw [World.cell?_setCell_other _ _ _ _ (fun e2 => by injection e2 with e2; omega), World.cell?_setCell_other _ _ _ _ (fun e2 => by injection e2 with e2; omega), World.frozen?_setCell, World.frozen?_setCell]
          exact HCn.out)
        have HQ : Hid (bpRest a L M i0 (3 - (t + 1)) (t + 1) (xorNext r, swp dk x p) = breakPatterns d a b) := Lib.hid (by
          have h1 := bp_step a L M i0 t r dk (O) (by omega) (by rw [← HN1.out.2]; exact hOc)
          rw [hx, hp] at h1
          rw [← HO.out, h1])
        have HS2 : Hid ((swp dk x p).size = n) := Lib.hid (by rw [size_swp]; exact HS.out)
        have ii0 : (0 : Int) ≤ (x : Int) := by omega
        have ii1 : (x : Int) < (n : Int) := by omega
        have jj0 : (0 : Int) ≤ (p : Int) := by omega
        have jj1 : (p : Int) < (n : Int) := by omega
        have xx1 : (x : Int) + 1 = ((i0 + (t + 1) : Nat) : Int) := by omega
        have RN := Lib.hid HN1.out.1
        rw [hWn] at CN
        clear hxi hxj HK HB ci cj fi fj HO HN1 hWn HKn HBn HCn kc kf hp hx
        go_wp2_with fail
        refine CN.out.mono ?_
        rintro e w' ⟨rfl, e9⟩
        rw [e9]
        clear e9 CN w'
        go_wp2_with fail
        go_region
        all_goals
          go_wp2
          go_roundg g'
          case measure => omega
          case rel =>
            exact ⟨t + 1, xorNext r, swp dk x p, by congr 1, by omega, HS2, HW, HWB, by rw [← RN.out]; exact HWC.out, HQ⟩
    · obtain rfl : t = 3 := by omega
      obtain ⟨x, hx⟩ : ∃ x, i0 + 3 = x := ⟨_, rfl⟩
      rw [hx]
      have hxz : ¬ (x : Int) ≤ (j1 : Int) := by omega
      have HE : Hid (dk = breakPatterns d a b) := Lib.hid (by
        have := HO.out
        rw [show 3 - 3 = 0 from rfl] at this
        exact this)
      clear HO kc kf CX
      go_wp2
      first | go_end0 | (refine bodyPost_ret (results_none rfl _ _ _) rfl ?_)
      exact ⟨rfl, by rw [← HE.out]; exact HK.out, HB.out⟩
end Go.Proofs.Ytchobpfdmkgnoaa
