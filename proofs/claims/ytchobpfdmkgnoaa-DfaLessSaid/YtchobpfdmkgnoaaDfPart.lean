/-
  What is proved: what slices.Sort's partition does to bytes in memory. Nothing else that lay in memory is changed.
-/
import Derived.Test.YtchobpfdmkgnoaaDfPiv
import Derived.Deep.CutBlock
import Derived.Deep.DeepCutAuto
namespace Go.Proofs.Ytchobpfdmkgnoaa
open Go.RowKit Go.Shelf Go.Sort

theorem scanUp_go (p : UInt8 → Bool) (d : Array UInt8) (j i : Nat) (h : i ≤ j) (hp : p d[i]! = true) : scanUp p d j i = scanUp p d j (i + 1) := by
  rw [scanUp.eq_def p d j i, if_pos (by simp [h, hp])]
theorem scanUp_stop (p : UInt8 → Bool) (d : Array UInt8) (j i : Nat) (h : ¬ i ≤ j ∨ p d[i]! = false) : scanUp p d j i = i := by
  rw [scanUp.eq_def, if_neg (by
    rcases h with h | h
    · simp [h]
    · simp [h])]
theorem scanDown_go (p : UInt8 → Bool) (d : Array UInt8) (i j : Nat) (h : i ≤ j + 1) (hp : p d[j + 1]! = true) : scanDown p d i (j + 1) = scanDown p d i j := by
  rw [scanDown, if_pos (by simp [h, hp])]
theorem scanDown_stop (p : UInt8 → Bool) (d : Array UInt8) (i j : Nat) (h : ¬ i ≤ j ∨ p d[j]! = false) : scanDown p d i j = j := by
  cases j with
  | zero => rfl
  | succ j =>
    rw [scanDown, if_neg (by
      rcases h with h | h
      · simp [h]
      · simp [h])]

theorem partLoop_stop (a i j i2 j2 : Nat) (d : Array UInt8) (h1 : scanUp (fun x => ltB x d[a]!) d j i = i2) (h2 : scanDown (fun x => !ltB x d[a]!) d i2 j = j2) (h : i2 > j2) : partLoop ltB a i j d = (j2, d) := by
  rw [partLoop.eq_def]
  dsimp only
  rw [h1, h2, if_pos h]
theorem partLoop_go (a i j i2 j2 : Nat) (d : Array UInt8) (h1 : scanUp (fun x => ltB x d[a]!) d j i = i2) (h2 : scanDown (fun x => !ltB x d[a]!) d i2 j = j2) (h : ¬ i2 > j2) : partLoop ltB a i j d = partLoop ltB a (i2 + 1) (j2 - 1) (swp d i2 j2) := by
  have g1 := scanUp_ge (fun x => ltB x d[a]!) d j i
  have g2 := scanDown_le (fun x => !ltB x d[a]!) d i2 j
  rw [h1] at g1
  rw [h2] at g2
  rw [partLoop.eq_def]
  dsimp only
  rw [h1, h2, if_neg h, dif_pos (guard_of g1 g2 h)]

set_option maxRecDepth 100000 in
set_option maxHeartbeats 4000000 in
/-- slices.partitionOrdered. -/
theorem part_any (blk off cap a b pivot : Nat) (d : Array UInt8) (w : World) (hH : Holds encB w blk off d) (ha : a ≤ pivot) (hp : pivot < b) (hb : b ≤ d.size) (hsz : d.size ≤ 1000000) :
    Calls Try.prog 80 #[.slice (some ⟨blk, off, none⟩) d.size cap, .int .i64 (a : Int), .int .i64 (b : Int), .int .i64 (pivot : Int)] w fun e w' => e = .returned (.tuple #[.int .i64 ((partition ltB d a b pivot).1 : Int), .bool (partition ltB d a b pivot).2.1]) ∧ Holds encB w' blk off (partition ltB d a b pivot).2.2 ∧ OnlyAt blk w.heap.size w w' := by
  have C := Lib.hid less_any
  obtain ⟨n, hn⟩ : ∃ n, d.size = n := ⟨_, rfl⟩
  have HK : Hid (Holds encB w blk off d) := hH
  have HN : Hid (d.size = n) := hn
  have HB : Hid (OnlyAt blk w.heap.size w w) := Lib.hid (OnlyAt.refl _ _ _)
  rw [hn] at hb hsz
  rw [hn]
  clear hH hn
  have ci := (HK.out a (by have := HN.out; omega)).1
  have cj := (HK.out pivot (by have := HN.out; omega)).1
  have fi := (HK.out a (by have := HN.out; omega)).2
  have fj := (HK.out pivot (by have := HN.out; omega)).2
  obtain ⟨xi, hxi⟩ : ∃ x, d[a]! = x := ⟨_, rfl⟩
  obtain ⟨xj, hxj⟩ : ∃ x, d[pivot]! = x := ⟨_, rfl⟩
  rw [hxi] at ci
  rw [hxj] at cj
  unfold encB at ci cj
  have cs : (w.setCell ⟨blk, off + a, none⟩ (.int .u8 (xj.toNat : Int))).cell? ⟨blk, off + pivot, none⟩ = some (.int .u8 (xj.toNat : Int)) := by
    by_cases e : a = pivot
    · rw [e] at ci ⊢
      exact World.cell?_setCell_same _ _ _ ci
    · rw [World.cell?_setCell_other _ _ _ _ (fun e2 => e (by injection e2 with _ e2; omega))]
      exact cj
  have HW : Hid (Holds encB ((w.setCell ⟨blk, off + a, none⟩ (.int .u8 (xj.toNat : Int))).setCell ⟨blk, off + pivot, none⟩ (.int .u8 (xi.toNat : Int))) blk off (swp d a pivot)) := Lib.hid (by
    have := swap_holds2 HK.out (i := a) (j := pivot) (by have := HN.out; omega) (by have := HN.out; omega)
    rw [hxi, hxj] at this
    exact this)
  have HWB : Hid (OnlyAt blk w.heap.size w ((w.setCell ⟨blk, off + a, none⟩ (.int .u8 (xj.toNat : Int))).setCell ⟨blk, off + pivot, none⟩ (.int .u8 (xi.toNat : Int)))) := Lib.hid ((HB.out.set (off + a) _).set (off + pivot) _)
  have ii0 : (0 : Int) ≤ (a : Int) := by omega
  have ii1 : (a : Int) < (n : Int) := by omega
  have jj0 : (0 : Int) ≤ (pivot : Int) := by omega
  have jj1 : (pivot : Int) < (n : Int) := by omega
  clear hxi hxj HK HB
  obtain ⟨d1, hd1⟩ : ∃ d1, swp d a pivot = d1 := ⟨_, rfl⟩
  rw [hd1] at HW
  have HS : Hid (d1.size = n) := Lib.hid (by rw [← hd1, size_swp]; exact HN.out)
  obtain ⟨i0, hi0⟩ : ∃ i0, a + 1 = i0 := ⟨_, rfl⟩
  obtain ⟨j0, hj0⟩ : ∃ j0, b - 1 = j0 := ⟨_, rfl⟩
  have e1 : (a : Int) + 1 = (i0 : Int) := by omega
  have e2 : (b : Int) - 1 = (j0 : Int) := by omega
  have e3 : IntKind.i64.wrap (i0 : Int) = (i0 : Int) := by rw [IntKind.wrap_i64]; omega
  have e4 : IntKind.i64.wrap (j0 : Int) = (j0 : Int) := by rw [IntKind.wrap_i64]; omega
  have HDt : Hid (∀ i j, scanUp (fun x => ltB x d1[a]!) d1 j0 i0 = i → scanDown (fun x => !ltB x d1[a]!) d1 i j0 = j → i > j → partition ltB d a b pivot = (j, true, swp d1 j a)) := Lib.hid (fun i j h1 h2 h3 => by
    unfold partition
    dsimp only
    rw [hd1, hj0, hi0, h1, h2, if_pos h3])
  have HDf : Hid (∀ i j, scanUp (fun x => ltB x d1[a]!) d1 j0 i0 = i → scanDown (fun x => !ltB x d1[a]!) d1 i j0 = j → ¬ i > j → partition ltB d a b pivot = ((partLoop ltB a (i + 1) (j - 1) (swp d1 i j)).1, false, swp (partLoop ltB a (i + 1) (j - 1) (swp d1 i j)).2 (partLoop ltB a (i + 1) (j - 1) (swp d1 i j)).1 a)) := Lib.hid (fun i j h1 h2 h3 => by
    unfold partition
    dsimp only
    rw [hd1, hj0, hi0, h1, h2, if_neg h3])
  obtain ⟨P, hP⟩ : ∃ P, partition ltB d a b pivot = P := ⟨_, rfl⟩
  rw [hP] at HDt HDf
  rw [hP]
  clear hP hd1
  go_enter Try.func80, Try.ntmps80
  go_wp2_with fail
  go_region
  · obtain ⟨W1, hW1⟩ : ∃ W1, ((w.setCell ⟨blk, off + a, none⟩ (.int .u8 (xj.toNat : Int))).setCell ⟨blk, off + pivot, none⟩ (.int .u8 (xi.toNat : Int))).drew = W1 := ⟨_, rfl⟩
    have HK : Hid (Holds encB W1 blk off d1) := Lib.hid (by rw [← hW1]; exact HW.out)
    have HB : Hid (OnlyAt blk w.heap.size w W1) := Lib.hid (by rw [← hW1]; exact HWB.out.drew)
    rw [hW1]
    clear hW1 HW HWB cs ci cj fi fj jj0 jj1
    go_upto_block 0 with fail
    go_cut [10] from 30 to 45 (fun s wx => s = .int .i64 ((scanUp (fun x => ltB x d1[a]!) d1 j0 i0 : Nat) : Int) ∧ Hid (Holds encB wx blk off d1) ∧ Hid (OnlyAt blk w.heap.size w wx))
    case first =>
      go_wp2_with fail
      go_loopg [10] (j0 + 1 - i0) (fun gk s wr => ∃ i : Nat, s = .int .i64 i ∧ a < i ∧ i ≤ j0 + 2 ∧ j0 + 1 - i ≤ gk ∧ Hid (Holds encB wr blk off d1) ∧ Hid (OnlyAt blk w.heap.size w wr) ∧ Hid (scanUp (fun x => ltB x d1[a]!) d1 j0 i = scanUp (fun x => ltB x d1[a]!) d1 j0 i0))
      case atStart => exact ⟨i0, by go_num, by omega, by omega, Nat.le_refl _, HK, HB, Lib.hid rfl⟩
      case round =>
        clear HK HB
        obtain ⟨i, rfl, hai, hij1, hg, HK, HB, HO⟩ := hrel
        by_cases hij : i ≤ j0
        · have hijz : (i : Int) ≤ (j0 : Int) := by omega
          have hd : decide ((i : Int) ≤ (j0 : Int)) = true := decide_eq_true hijz
          have ci := (HK.out i (by have := HS.out; omega)).1
          have ca := (HK.out a (by have := HS.out; omega)).1
          obtain ⟨x, hx⟩ : ∃ x, d1[i]! = x := ⟨_, rfl⟩
          obtain ⟨y, hy⟩ : ∃ y, d1[a]! = y := ⟨_, rfl⟩
          rw [hx] at ci
          rw [hy] at ca
          unfold encB at ci ca
          have i0' : (0 : Int) ≤ (i : Int) := by omega
          have i1' : (i : Int) < (n : Int) := by omega
          have hxl := Lib.hid hx
          have hyl := Lib.hid hy
          clear hx hy
          obtain ⟨g', rfl⟩ : ∃ g', gk = g' + 1 := ⟨gk - 1, by omega⟩
          have C1 := C.out x y
          cases hlv : ltB x y with
          | true =>
            have HP : Hid (scanUp (fun x => ltB x d1[a]!) d1 j0 (i + 1) = scanUp (fun x => ltB x d1[a]!) d1 j0 i0) := Lib.hid (by rw [← HO.out, scanUp_go _ _ _ _ hij (by rw [hxl.out, hyl.out, hlv] <;> rfl)])
            have C2 : Hid (∀ w, Calls Try.prog 78 #[.int .u8 (x.toNat : Int), .int .u8 (y.toNat : Int)] w fun e w' => e = .returned (.bool true) ∧ w' = w) := Lib.hid (fun w => by have := C.out x y w; rwa [hlv] at this)
            clear hlv C1
            go_wp2_with fail
            go_quiet (first | (go_at_call 78; refine Calls.quiet_of_same (C2.out _)))
            go_wp2
            go_roundg g'
            case measure => omega
            case rel => exact ⟨i + 1, by go_num, by omega, by omega, by omega, Lib.hid (holds_drewN HK.out _), Lib.hid (only_drewN HB.out _), HP⟩
          | false =>
            have HP : Hid (i = scanUp (fun x => ltB x d1[a]!) d1 j0 i0) := Lib.hid (by rw [← HO.out, scanUp_stop _ _ _ _ (.inr (by rw [hxl.out, hyl.out, hlv] <;> rfl))])
            have C2 : Hid (∀ w, Calls Try.prog 78 #[.int .u8 (x.toNat : Int), .int .u8 (y.toNat : Int)] w fun e w' => e = .returned (.bool false) ∧ w' = w) := Lib.hid (fun w => by have := C.out x y w; rwa [hlv] at this)
            clear hlv C1
            go_wp2_with fail
            go_quiet (first | (go_at_call 78; refine Calls.quiet_of_same (C2.out _)))
            go_wp2
            go_meet
            exact ⟨by rw [← HP.out], Lib.hid (holds_drewN HK.out _), Lib.hid (only_drewN HB.out _)⟩
        · have hijz : ¬ (i : Int) ≤ (j0 : Int) := by omega
          have hd : decide ((i : Int) ≤ (j0 : Int)) = false := decide_eq_false hijz
          have HP : Hid (i = scanUp (fun x => ltB x d1[a]!) d1 j0 i0) := Lib.hid (by rw [← HO.out, scanUp_stop _ _ _ _ (.inl hij)])
          go_wp2_with fail
          go_quiet (fail)
          go_wp2
          go_meet
          exact ⟨by rw [← HP.out], Lib.hid (holds_drewN HK.out _), Lib.hid (only_drewN HB.out _)⟩
    case rest =>
      clear HK HB
      obtain ⟨rfl, HK, HB⟩ := hcut
      obtain ⟨i1, hi1⟩ : ∃ i1, scanUp (fun x => ltB x d1[a]!) d1 j0 i0 = i1 := ⟨_, rfl⟩
      have hsu := scanUp_spec (fun x => ltB x d1[a]!) d1 j0 _ i0 rfl
      rw [hi1] at hsu
      have hi1a : a < i1 := by omega
      have hi1b : i1 ≤ j0 + 1 := hsu.2.1 (by omega)
      have HI1 := Lib.hid hi1
      rw [hi1]
      clear hsu hi1
      go_upto_block 2 with fail
      go_cut [11] from 46 to 62 (fun s wx => s = .int .i64 ((scanDown (fun x => !ltB x d1[a]!) d1 i1 j0 : Nat) : Int) ∧ Hid (Holds encB wx blk off d1) ∧ Hid (OnlyAt blk w.heap.size w wx))
      case first =>
        go_wp2_with fail
        go_loopg [11] (j0 + 1) (fun gk s wr => ∃ j : Nat, s = .int .i64 j ∧ j ≤ j0 ∧ i1 ≤ j + 2 ∧ j + 1 ≤ gk ∧ Hid (Holds encB wr blk off d1) ∧ Hid (OnlyAt blk w.heap.size w wr) ∧ Hid (scanDown (fun x => !ltB x d1[a]!) d1 i1 j = scanDown (fun x => !ltB x d1[a]!) d1 i1 j0))
        case atStart => exact ⟨j0, by go_num, Nat.le_refl _, by omega, Nat.le_refl _, HK, HB, Lib.hid rfl⟩
        case round =>
          clear HK HB
          obtain ⟨j, rfl, hjj, hij1, hg, HK, HB, HO⟩ := hrel
          by_cases hij : i1 ≤ j
          · have hijz : (i1 : Int) ≤ (j : Int) := by omega
            have hd : decide ((i1 : Int) ≤ (j : Int)) = true := decide_eq_true hijz
            obtain ⟨jp, rfl⟩ : ∃ jp, j = jp + 1 := ⟨j - 1, by omega⟩
            have cj := (HK.out (jp + 1) (by have := HS.out; omega)).1
            have ca := (HK.out a (by have := HS.out; omega)).1
            obtain ⟨x, hx⟩ : ∃ x, d1[jp + 1]! = x := ⟨_, rfl⟩
            obtain ⟨y, hy⟩ : ∃ y, d1[a]! = y := ⟨_, rfl⟩
            rw [hx] at cj
            rw [hy] at ca
            unfold encB at cj ca
            obtain ⟨q, hq⟩ : ∃ q, jp + 1 = q := ⟨_, rfl⟩
            have q1 : (jp : Int) + 1 = (q : Int) := by omega
            have q2 : (q : Int) - 1 = (jp : Int) := by omega
            have q3 : IntKind.i64.wrap (jp : Int) = (jp : Int) := by rw [IntKind.wrap_i64]; omega
            rw [hq] at cj
            have j0' : (0 : Int) ≤ (q : Int) := by omega
            have j1' : (q : Int) < (n : Int) := by omega
            rw [hq] at hijz hd
            rw [show ((jp + 1 : Nat) : Int) = (q : Int) by omega]
            have hxl := Lib.hid hx
            have hyl := Lib.hid hy
            clear hx hy
            obtain ⟨g', rfl⟩ : ∃ g', gk = g' + 1 := ⟨gk - 1, by omega⟩
            cases hlv : ltB x y with
            | false =>
              have HP : Hid (scanDown (fun x => !ltB x d1[a]!) d1 i1 jp = scanDown (fun x => !ltB x d1[a]!) d1 i1 j0) := Lib.hid (by rw [← HO.out, scanDown_go _ _ _ _ hij (by rw [hxl.out, hyl.out, hlv] <;> rfl)])
              have C2 : Hid (∀ w, Calls Try.prog 78 #[.int .u8 (x.toNat : Int), .int .u8 (y.toNat : Int)] w fun e w' => e = .returned (.bool false) ∧ w' = w) := Lib.hid (fun w => by have := C.out x y w; rwa [hlv] at this)
              have hij' : i1 ≤ jp + 2 := by omega
              clear hlv hq
              go_wp2_with fail
              go_quiet (first | (go_at_call 78; refine Calls.quiet_of_same (C2.out _)))
              go_wp2
              go_roundg g'
              case measure => omega
              case rel => exact ⟨jp, by go_num, by omega, hij', by omega, Lib.hid (holds_drewN HK.out _), Lib.hid (only_drewN HB.out _), HP⟩
            | true =>
              have HP : Hid (q = scanDown (fun x => !ltB x d1[a]!) d1 i1 j0) := Lib.hid (by rw [← HO.out, scanDown_stop _ _ _ _ (.inr (by rw [hxl.out, hyl.out, hlv] <;> rfl)), hq])
              have C2 : Hid (∀ w, Calls Try.prog 78 #[.int .u8 (x.toNat : Int), .int .u8 (y.toNat : Int)] w fun e w' => e = .returned (.bool true) ∧ w' = w) := Lib.hid (fun w => by have := C.out x y w; rwa [hlv] at this)
              clear hlv hq
              go_wp2_with fail
              go_quiet (first | (go_at_call 78; refine Calls.quiet_of_same (C2.out _)))
              go_wp2
              go_meet
              exact ⟨by rw [← HP.out], Lib.hid (holds_drewN HK.out _), Lib.hid (only_drewN HB.out _)⟩
          · have hijz : ¬ (i1 : Int) ≤ (j : Int) := by omega
            have hd : decide ((i1 : Int) ≤ (j : Int)) = false := decide_eq_false hijz
            have HP : Hid (j = scanDown (fun x => !ltB x d1[a]!) d1 i1 j0) := Lib.hid (by rw [← HO.out, scanDown_stop _ _ _ _ (.inl hij)])
            go_wp2_with fail
            go_quiet (fail)
            go_wp2
            go_meet
            exact ⟨by rw [← HP.out], Lib.hid (holds_drewN HK.out _), Lib.hid (only_drewN HB.out _)⟩
      case rest =>
        clear HK HB
        obtain ⟨rfl, HK, HB⟩ := hcut
        obtain ⟨j1, hj1⟩ : ∃ j1, scanDown (fun x => !ltB x d1[a]!) d1 i1 j0 = j1 := ⟨_, rfl⟩
        have hsd := scanDown_spec (fun x => !ltB x d1[a]!) d1 i1 j0
        rw [hj1] at hsd
        have hj1a : j1 ≤ j0 := hsd.1
        have hj1b : i1 ≤ j1 + 1 := hsd.2.1 hi1b
        have HJ1 := Lib.hid hj1
        rw [hj1]
        clear hsd hj1
        by_cases hgt : j1 < i1
        · have hgtz : (j1 : Int) < (i1 : Int) := by omega
          have HP := Lib.hid (HDt.out i1 j1 HI1.out HJ1.out hgt)
          clear HDt HDf
          have ci := (HK.out j1 (by have := HS.out; omega)).1
          have cj := (HK.out a (by have := HS.out; omega)).1
          have fi := (HK.out j1 (by have := HS.out; omega)).2
          have fj := (HK.out a (by have := HS.out; omega)).2
          obtain ⟨xi, hxi⟩ : ∃ x, d1[j1]! = x := ⟨_, rfl⟩
          obtain ⟨xj, hxj⟩ : ∃ x, d1[a]! = x := ⟨_, rfl⟩
          rw [hxi] at ci
          rw [hxj] at cj
          unfold encB at ci cj
          have cs : (wc.setCell ⟨blk, off + j1, none⟩ (.int .u8 (xj.toNat : Int))).cell? ⟨blk, off + a, none⟩ = some (.int .u8 (xj.toNat : Int)) := by
            by_cases e : j1 = a
            · rw [e] at ci ⊢
              exact World.cell?_setCell_same _ _ _ ci
            · rw [World.cell?_setCell_other _ _ _ _ (fun e2 => e (by injection e2 with _ e2; omega))]
              exact cj
          have HW : Hid (Holds encB ((wc.setCell ⟨blk, off + j1, none⟩ (.int .u8 (xj.toNat : Int))).setCell ⟨blk, off + a, none⟩ (.int .u8 (xi.toNat : Int))) blk off (swp d1 j1 a)) := Lib.hid (by
            have := swap_holds2 HK.out (i := j1) (j := a) (by have := HS.out; omega) (by have := HS.out; omega)
            rw [hxi, hxj] at this
            exact this)
          have HWB : Hid (OnlyAt blk w.heap.size w ((wc.setCell ⟨blk, off + j1, none⟩ (.int .u8 (xj.toNat : Int))).setCell ⟨blk, off + a, none⟩ (.int .u8 (xi.toNat : Int)))) := Lib.hid ((HB.out.set (off + j1) _).set (off + a) _)
          have ii0 : (0 : Int) ≤ (j1 : Int) := by omega
          have ii1 : (j1 : Int) < (n : Int) := by omega
          have jj0 : (0 : Int) ≤ (a : Int) := by omega
          have jj1 : (a : Int) < (n : Int) := by omega
          clear hxi hxj HK HB
          go_wp2_with fail
          go_region
          all_goals
            go_wp2
            refine bodyPost_ret (v := .tuple #[.int .i64 (j1 : Int), .bool true]) (by simp [results, Try.results80, go_sem]) rfl ?_
            rw [HP.out]
            exact ⟨rfl, HW.out, HWB.out.drew⟩
        · have hgtz : ¬ (j1 : Int) < (i1 : Int) := by omega
          have HP := Lib.hid (HDf.out i1 j1 HI1.out HJ1.out (by omega))
          clear HDt HDf
          have ci := (HK.out i1 (by have := HS.out; omega)).1
          have cj := (HK.out j1 (by have := HS.out; omega)).1
          have fi := (HK.out i1 (by have := HS.out; omega)).2
          have fj := (HK.out j1 (by have := HS.out; omega)).2
          obtain ⟨xi, hxi⟩ : ∃ x, d1[i1]! = x := ⟨_, rfl⟩
          obtain ⟨xj, hxj⟩ : ∃ x, d1[j1]! = x := ⟨_, rfl⟩
          rw [hxi] at ci
          rw [hxj] at cj
          unfold encB at ci cj
          have cs : (wc.setCell ⟨blk, off + i1, none⟩ (.int .u8 (xj.toNat : Int))).cell? ⟨blk, off + j1, none⟩ = some (.int .u8 (xj.toNat : Int)) := by
            by_cases e : i1 = j1
            · rw [e] at ci ⊢
              exact World.cell?_setCell_same _ _ _ ci
            · rw [World.cell?_setCell_other _ _ _ _ (fun e2 => e (by injection e2 with _ e2; omega))]
              exact cj
          have HW : Hid (Holds encB ((wc.setCell ⟨blk, off + i1, none⟩ (.int .u8 (xj.toNat : Int))).setCell ⟨blk, off + j1, none⟩ (.int .u8 (xi.toNat : Int))) blk off (swp d1 i1 j1)) := Lib.hid (by
            have := swap_holds2 HK.out (i := i1) (j := j1) (by have := HS.out; omega) (by have := HS.out; omega)
            rw [hxi, hxj] at this
            exact this)
          have HWB : Hid (OnlyAt blk w.heap.size w ((wc.setCell ⟨blk, off + i1, none⟩ (.int .u8 (xj.toNat : Int))).setCell ⟨blk, off + j1, none⟩ (.int .u8 (xi.toNat : Int)))) := Lib.hid ((HB.out.set (off + i1) _).set (off + j1) _)
          have ii0 : (0 : Int) ≤ (i1 : Int) := by omega
          have ii1 : (i1 : Int) < (n : Int) := by omega
          have jj0 : (0 : Int) ≤ (j1 : Int) := by omega
          have jj1 : (j1 : Int) < (n : Int) := by omega
          clear hxi hxj HK HB
          obtain ⟨d2, hd2⟩ : ∃ d2, swp d1 i1 j1 = d2 := ⟨_, rfl⟩
          rw [hd2] at HW HP
          have HS2 : Hid (d2.size = n) := Lib.hid (by rw [← hd2, size_swp]; exact HS.out)
          obtain ⟨i2, hi2⟩ : ∃ i2, i1 + 1 = i2 := ⟨_, rfl⟩
          obtain ⟨j2, hj2⟩ : ∃ j2, j1 - 1 = j2 := ⟨_, rfl⟩
          rw [hi2, hj2] at HP
          have k1 : (i1 : Int) + 1 = (i2 : Int) := by omega
          have k2 : (j1 : Int) - 1 = (j2 : Int) := by omega
          have k3 : IntKind.i64.wrap (i2 : Int) = (i2 : Int) := by rw [IntKind.wrap_i64]; omega
          have k4 : IntKind.i64.wrap (j2 : Int) = (j2 : Int) := by rw [IntKind.wrap_i64]; omega
          have hb1 : i2 ≤ j2 + 2 := by omega
          have hb2 : j2 < b := by omega
          clear hd2 HS HI1 HJ1
          go_wp2_with fail
          go_region
          all_goals
            go_wp2_with fail
            go_loopg [10, 11] (j2 + 2 - i2) (fun GK s10 s11 wr => ∃ (I J : Nat) (dk : Array UInt8), s10 = .int .i64 I ∧ s11 = .int .i64 J ∧ a < I ∧ I ≤ J + 2 ∧ J < b ∧ J + 2 - I ≤ GK ∧ Hid (dk.size = n) ∧ Hid (Holds encB wr blk off dk) ∧ Hid (OnlyAt blk w.heap.size w wr) ∧ Hid (P = ((partLoop ltB a I J dk).1, false, swp (partLoop ltB a I J dk).2 (partLoop ltB a I J dk).1 a)))
            case atStart => exact ⟨i2, j2, d2, by go_num, by go_num, by omega, hb1, hb2, Nat.le_refl _, HS2, HW, Lib.hid HWB.out.drew, HP⟩
            case round =>
              clear HW HWB HS2 HP hb1 hb2 k1 k2 k3 k4 hi2 hj2 hgtz hgt hi1a hi1b hj1a hj1b e1 e2 e3 e4 hi0 hj0 ii0 ii1 jj0 jj1 cs ci cj fi fj
              obtain ⟨I, J, dk, rfl, rfl, hAI, hIJ2, hJb, hG, HS, HK, HB, HO⟩ := hrel
              have HQ := HO
              go_upto_block 6 with fail
              go_cut [10] from 99 to 152 (fun s wx => s = .int .i64 ((scanUp (fun x => ltB x dk[a]!) dk J I : Nat) : Int) ∧ Hid (Holds encB wx blk off dk) ∧ Hid (OnlyAt blk w.heap.size w wx))
              case first =>
                go_wp2_with fail
                go_loopg [10] (J + 1 - I) (fun gk s wr => ∃ i : Nat, s = .int .i64 i ∧ a < i ∧ i ≤ J + 2 ∧ J + 1 - i ≤ gk ∧ Hid (Holds encB wr blk off dk) ∧ Hid (OnlyAt blk w.heap.size w wr) ∧ Hid (scanUp (fun x => ltB x dk[a]!) dk J i = scanUp (fun x => ltB x dk[a]!) dk J I))
                case atStart => exact ⟨I, by go_num, by omega, by omega, Nat.le_refl _, HK, HB, Lib.hid rfl⟩
                case round =>
                  clear HK HB
                  obtain ⟨i, rfl, hai, hij1, hg, HK, HB, HO⟩ := hrel
                  by_cases hij : i ≤ J
                  · have hijz : (i : Int) ≤ (J : Int) := by omega
                    have hd : decide ((i : Int) ≤ (J : Int)) = true := decide_eq_true hijz
                    have ci := (HK.out i (by have := HS.out; omega)).1
                    have ca := (HK.out a (by have := HS.out; omega)).1
                    obtain ⟨x, hx⟩ : ∃ x, dk[i]! = x := ⟨_, rfl⟩
                    obtain ⟨y, hy⟩ : ∃ y, dk[a]! = y := ⟨_, rfl⟩
                    rw [hx] at ci
                    rw [hy] at ca
                    unfold encB at ci ca
                    have i0' : (0 : Int) ≤ (i : Int) := by omega
                    have i1' : (i : Int) < (n : Int) := by omega
                    have hxl := Lib.hid hx
                    have hyl := Lib.hid hy
                    clear hx hy
                    obtain ⟨g', rfl⟩ : ∃ g', gk = g' + 1 := ⟨gk - 1, by omega⟩
                    have C1 := C.out x y
                    cases hlv : ltB x y with
                    | true =>
                      have HP : Hid (scanUp (fun x => ltB x dk[a]!) dk J (i + 1) = scanUp (fun x => ltB x dk[a]!) dk J I) := Lib.hid (by rw [← HO.out, scanUp_go _ _ _ _ hij (by rw [hxl.out, hyl.out, hlv] <;> rfl)])
                      have C2 : Hid (∀ w, Calls Try.prog 78 #[.int .u8 (x.toNat : Int), .int .u8 (y.toNat : Int)] w fun e w' => e = .returned (.bool true) ∧ w' = w) := Lib.hid (fun w => by have := C.out x y w; rwa [hlv] at this)
                      clear hlv C1
                      go_wp2_with fail
                      go_quiet (first | (go_at_call 78; refine Calls.quiet_of_same (C2.out _)))
                      go_wp2
                      go_roundg g'
                      case measure => omega
                      case rel => exact ⟨i + 1, by go_num, by omega, by omega, by omega, Lib.hid (holds_drewN HK.out _), Lib.hid (only_drewN HB.out _), HP⟩
                    | false =>
                      have HP : Hid (i = scanUp (fun x => ltB x dk[a]!) dk J I) := Lib.hid (by rw [← HO.out, scanUp_stop _ _ _ _ (.inr (by rw [hxl.out, hyl.out, hlv] <;> rfl))])
                      have C2 : Hid (∀ w, Calls Try.prog 78 #[.int .u8 (x.toNat : Int), .int .u8 (y.toNat : Int)] w fun e w' => e = .returned (.bool false) ∧ w' = w) := Lib.hid (fun w => by have := C.out x y w; rwa [hlv] at this)
                      clear hlv C1
                      go_wp2_with fail
                      go_quiet (first | (go_at_call 78; refine Calls.quiet_of_same (C2.out _)))
                      go_wp2
                      go_meet
                      exact ⟨by rw [← HP.out], Lib.hid (holds_drewN HK.out _), Lib.hid (only_drewN HB.out _)⟩
                  · have hijz : ¬ (i : Int) ≤ (J : Int) := by omega
                    have hd : decide ((i : Int) ≤ (J : Int)) = false := decide_eq_false hijz
                    have HP : Hid (i = scanUp (fun x => ltB x dk[a]!) dk J I) := Lib.hid (by rw [← HO.out, scanUp_stop _ _ _ _ (.inl hij)])
                    go_wp2_with fail
                    go_quiet (fail)
                    go_wp2
                    go_meet
                    exact ⟨by rw [← HP.out], Lib.hid (holds_drewN HK.out _), Lib.hid (only_drewN HB.out _)⟩
              case rest =>
                clear HK HB
                obtain ⟨rfl, HK, HB⟩ := hcut
                obtain ⟨I2, hI2⟩ : ∃ I2, scanUp (fun x => ltB x dk[a]!) dk J I = I2 := ⟨_, rfl⟩
                have hsu := scanUp_spec (fun x => ltB x dk[a]!) dk J _ I rfl
                rw [hI2] at hsu
                have hI2a : a < I2 := by omega
                have hI2b : I2 ≤ J + 2 := by
                  by_cases h : I ≤ J + 1
                  · have := hsu.2.1 h; omega
                  · have := scanUp_stop (fun x => ltB x dk[a]!) dk J I (.inl (by omega))
                    omega
                have HI2 := Lib.hid hI2
                rw [hI2]
                clear hsu hI2
                go_upto_block 8 with fail
                go_cut [11] from 99 to 152 (fun s wx => s = .int .i64 ((scanDown (fun x => !ltB x dk[a]!) dk I2 J : Nat) : Int) ∧ Hid (Holds encB wx blk off dk) ∧ Hid (OnlyAt blk w.heap.size w wx))
                case first =>
                  go_wp2_with fail
                  go_loopg [11] (J + 1) (fun gk s wr => ∃ j : Nat, s = .int .i64 j ∧ j ≤ J ∧ I2 ≤ j + 2 ∧ j + 1 ≤ gk ∧ Hid (Holds encB wr blk off dk) ∧ Hid (OnlyAt blk w.heap.size w wr) ∧ Hid (scanDown (fun x => !ltB x dk[a]!) dk I2 j = scanDown (fun x => !ltB x dk[a]!) dk I2 J))
                  case atStart => exact ⟨J, by go_num, Nat.le_refl _, by omega, Nat.le_refl _, HK, HB, Lib.hid rfl⟩
                  case round =>
                    clear HK HB
                    obtain ⟨j, rfl, hjj, hij1, hg, HK, HB, HO⟩ := hrel
                    by_cases hij : I2 ≤ j
                    · have hijz : (I2 : Int) ≤ (j : Int) := by omega
                      have hd : decide ((I2 : Int) ≤ (j : Int)) = true := decide_eq_true hijz
                      obtain ⟨jp, rfl⟩ : ∃ jp, j = jp + 1 := ⟨j - 1, by omega⟩
                      have cj := (HK.out (jp + 1) (by have := HS.out; omega)).1
                      have ca := (HK.out a (by have := HS.out; omega)).1
                      obtain ⟨x, hx⟩ : ∃ x, dk[jp + 1]! = x := ⟨_, rfl⟩
                      obtain ⟨y, hy⟩ : ∃ y, dk[a]! = y := ⟨_, rfl⟩
                      rw [hx] at cj
                      rw [hy] at ca
                      unfold encB at cj ca
                      obtain ⟨q, hq⟩ : ∃ q, jp + 1 = q := ⟨_, rfl⟩
                      have q1 : (jp : Int) + 1 = (q : Int) := by omega
                      have q2 : (q : Int) - 1 = (jp : Int) := by omega
                      have q3 : IntKind.i64.wrap (jp : Int) = (jp : Int) := by rw [IntKind.wrap_i64]; omega
                      rw [hq] at cj
                      have j0' : (0 : Int) ≤ (q : Int) := by omega
                      have j1' : (q : Int) < (n : Int) := by omega
                      rw [hq] at hijz hd
                      rw [show ((jp + 1 : Nat) : Int) = (q : Int) by omega]
                      have hxl := Lib.hid hx
                      have hyl := Lib.hid hy
                      clear hx hy
                      obtain ⟨g', rfl⟩ : ∃ g', gk = g' + 1 := ⟨gk - 1, by omega⟩
                      cases hlv : ltB x y with
                      | false =>
                        have HP : Hid (scanDown (fun x => !ltB x dk[a]!) dk I2 jp = scanDown (fun x => !ltB x dk[a]!) dk I2 J) := Lib.hid (by rw [← HO.out, scanDown_go _ _ _ _ hij (by rw [hxl.out, hyl.out, hlv] <;> rfl)])
                        have C2 : Hid (∀ w, Calls Try.prog 78 #[.int .u8 (x.toNat : Int), .int .u8 (y.toNat : Int)] w fun e w' => e = .returned (.bool false) ∧ w' = w) := Lib.hid (fun w => by have := C.out x y w; rwa [hlv] at this)
                        have hij' : I2 ≤ jp + 2 := by omega
                        clear hlv hq
                        go_wp2_with fail
                        go_quiet (first | (go_at_call 78; refine Calls.quiet_of_same (C2.out _)))
                        go_wp2
                        go_roundg g'
                        case measure => omega
                        case rel => exact ⟨jp, by go_num, by omega, hij', by omega, Lib.hid (holds_drewN HK.out _), Lib.hid (only_drewN HB.out _), HP⟩
                      | true =>
                        have HP : Hid (q = scanDown (fun x => !ltB x dk[a]!) dk I2 J) := Lib.hid (by rw [← HO.out, scanDown_stop _ _ _ _ (.inr (by rw [hxl.out, hyl.out, hlv] <;> rfl)), hq])
                        have C2 : Hid (∀ w, Calls Try.prog 78 #[.int .u8 (x.toNat : Int), .int .u8 (y.toNat : Int)] w fun e w' => e = .returned (.bool true) ∧ w' = w) := Lib.hid (fun w => by have := C.out x y w; rwa [hlv] at this)
                        clear hlv hq
                        go_wp2_with fail
                        go_quiet (first | (go_at_call 78; refine Calls.quiet_of_same (C2.out _)))
                        go_wp2
                        go_meet
                        exact ⟨by rw [← HP.out], Lib.hid (holds_drewN HK.out _), Lib.hid (only_drewN HB.out _)⟩
                    · have hijz : ¬ (I2 : Int) ≤ (j : Int) := by omega
                      have hd : decide ((I2 : Int) ≤ (j : Int)) = false := decide_eq_false hijz
                      have HP : Hid (j = scanDown (fun x => !ltB x dk[a]!) dk I2 J) := Lib.hid (by rw [← HO.out, scanDown_stop _ _ _ _ (.inl hij)])
                      go_wp2_with fail
                      go_quiet (fail)
                      go_wp2
                      go_meet
                      exact ⟨by rw [← HP.out], Lib.hid (holds_drewN HK.out _), Lib.hid (only_drewN HB.out _)⟩
                case rest =>
                  clear HK HB
                  obtain ⟨rfl, HK, HB⟩ := hcut
                  obtain ⟨J2, hJ2⟩ : ∃ J2, scanDown (fun x => !ltB x dk[a]!) dk I2 J = J2 := ⟨_, rfl⟩
                  have hJ2a : J2 ≤ J := by rw [← hJ2]; exact scanDown_le _ _ _ _
                  have HJ2 := Lib.hid hJ2
                  rw [hJ2]
                  clear hJ2
                  by_cases hgt : J2 < I2
                  · have hgtz : (J2 : Int) < (I2 : Int) := by omega
                    have HP := Lib.hid (show P = (J2, false, swp dk J2 a) by
                      rw [HQ.out, partLoop_stop a I J I2 J2 dk HI2.out HJ2.out hgt])
                    clear HQ HO
                    have ci := (HK.out J2 (by have := HS.out; omega)).1
                    have cj := (HK.out a (by have := HS.out; omega)).1
                    have fi := (HK.out J2 (by have := HS.out; omega)).2
                    have fj := (HK.out a (by have := HS.out; omega)).2
                    obtain ⟨xi, hxi⟩ : ∃ x, dk[J2]! = x := ⟨_, rfl⟩
                    obtain ⟨xj, hxj⟩ : ∃ x, dk[a]! = x := ⟨_, rfl⟩
                    rw [hxi] at ci
                    rw [hxj] at cj
                    unfold encB at ci cj
                    have cs : (wc.setCell ⟨blk, off + J2, none⟩ (.int .u8 (xj.toNat : Int))).cell? ⟨blk, off + a, none⟩ = some (.int .u8 (xj.toNat : Int)) := by
                      by_cases e : J2 = a
                      · rw [e] at ci ⊢
                        exact World.cell?_setCell_same _ _ _ ci
                      · rw [World.cell?_setCell_other _ _ _ _ (fun e2 => e (by injection e2 with _ e2; omega))]
                        exact cj
                    have HW : Hid (Holds encB ((wc.setCell ⟨blk, off + J2, none⟩ (.int .u8 (xj.toNat : Int))).setCell ⟨blk, off + a, none⟩ (.int .u8 (xi.toNat : Int))) blk off (swp dk J2 a)) := Lib.hid (by
                      have := swap_holds2 HK.out (i := J2) (j := a) (by have := HS.out; omega) (by have := HS.out; omega)
                      rw [hxi, hxj] at this
                      exact this)
                    have HWB : Hid (OnlyAt blk w.heap.size w ((wc.setCell ⟨blk, off + J2, none⟩ (.int .u8 (xj.toNat : Int))).setCell ⟨blk, off + a, none⟩ (.int .u8 (xi.toNat : Int)))) := Lib.hid ((HB.out.set (off + J2) _).set (off + a) _)
                    have ii0 : (0 : Int) ≤ (J2 : Int) := by omega
                    have ii1 : (J2 : Int) < (n : Int) := by omega
                    have jj0 : (0 : Int) ≤ (a : Int) := by omega
                    have jj1 : (a : Int) < (n : Int) := by omega
                    clear hxi hxj HK HB
                    go_wp2_with fail
                    go_region
                    all_goals
                      go_wp2
                      go_ret2
                      rw [HP.out]
                      exact ⟨rfl, HW.out, HWB.out.drew⟩
                  · have hgtz : ¬ (J2 : Int) < (I2 : Int) := by omega
                    have HP := Lib.hid (show P = ((partLoop ltB a (I2 + 1) (J2 - 1) (swp dk I2 J2)).1, false, swp (partLoop ltB a (I2 + 1) (J2 - 1) (swp dk I2 J2)).2 (partLoop ltB a (I2 + 1) (J2 - 1) (swp dk I2 J2)).1 a) by
                      rw [HQ.out, partLoop_go a I J I2 J2 dk HI2.out HJ2.out hgt])
                    clear HQ HO
                    have ci := (HK.out I2 (by have := HS.out; omega)).1
                    have cj := (HK.out J2 (by have := HS.out; omega)).1
                    have fi := (HK.out I2 (by have := HS.out; omega)).2
                    have fj := (HK.out J2 (by have := HS.out; omega)).2
                    obtain ⟨xi, hxi⟩ : ∃ x, dk[I2]! = x := ⟨_, rfl⟩
                    obtain ⟨xj, hxj⟩ : ∃ x, dk[J2]! = x := ⟨_, rfl⟩
                    rw [hxi] at ci
                    rw [hxj] at cj
                    unfold encB at ci cj
                    have cs : (wc.setCell ⟨blk, off + I2, none⟩ (.int .u8 (xj.toNat : Int))).cell? ⟨blk, off + J2, none⟩ = some (.int .u8 (xj.toNat : Int)) := by
                      by_cases e : I2 = J2
                      · rw [e] at ci ⊢
                        exact World.cell?_setCell_same _ _ _ ci
                      · rw [World.cell?_setCell_other _ _ _ _ (fun e2 => e (by injection e2 with _ e2; omega))]
                        exact cj
                    have HW : Hid (Holds encB ((wc.setCell ⟨blk, off + I2, none⟩ (.int .u8 (xj.toNat : Int))).setCell ⟨blk, off + J2, none⟩ (.int .u8 (xi.toNat : Int))) blk off (swp dk I2 J2)) := Lib.hid (by
                      have := swap_holds2 HK.out (i := I2) (j := J2) (by have := HS.out; omega) (by have := HS.out; omega)
                      rw [hxi, hxj] at this
                      exact this)
                    have HWB : Hid (OnlyAt blk w.heap.size w ((wc.setCell ⟨blk, off + I2, none⟩ (.int .u8 (xj.toNat : Int))).setCell ⟨blk, off + J2, none⟩ (.int .u8 (xi.toNat : Int)))) := Lib.hid ((HB.out.set (off + I2) _).set (off + J2) _)
                    have ii0 : (0 : Int) ≤ (I2 : Int) := by omega
                    have ii1 : (I2 : Int) < (n : Int) := by omega
                    have jj0 : (0 : Int) ≤ (J2 : Int) := by omega
                    have jj1 : (J2 : Int) < (n : Int) := by omega
                    clear hxi hxj HK HB
                    have hII : I ≤ I2 := by rw [← HI2.out]; exact scanUp_ge _ _ _ _
                    obtain ⟨I3, hI3⟩ : ∃ I3, I2 + 1 = I3 := ⟨_, rfl⟩
                    obtain ⟨J3, hJ3⟩ : ∃ J3, J2 - 1 = J3 := ⟨_, rfl⟩
                    rw [hI3, hJ3] at HP
                    have q1 : (I2 : Int) + 1 = (I3 : Int) := by omega
                    have q2 : (J2 : Int) - 1 = (J3 : Int) := by omega
                    have q3 : IntKind.i64.wrap (I3 : Int) = (I3 : Int) := by rw [IntKind.wrap_i64]; omega
                    have q4 : IntKind.i64.wrap (J3 : Int) = (J3 : Int) := by rw [IntKind.wrap_i64]; omega
                    have HS2 : Hid ((swp dk I2 J2).size = n) := Lib.hid (by rw [size_swp]; exact HS.out)
                    obtain ⟨G', rfl⟩ : ∃ G', gk = G' + 1 := ⟨gk - 1, by omega⟩
                    go_wp2_with fail
                    go_region
                    all_goals
                      go_wp2
                      go_roundg G'
                      case measure => omega
                      case rel => exact ⟨I3, J3, swp dk I2 J2, by go_num, by go_num, by omega, by omega, by omega, by omega, HS2, HW, Lib.hid HWB.out.drew, HP⟩
end Go.Proofs.Ytchobpfdmkgnoaa
