/-
  What is proved: what slices.Sort's partialInsertionSort does to bytes in memory. Nothing else that lay in memory is changed.
  What is proved: slices.Sort sorts bytes in memory, however many up to 1,000,000. Nothing else that lay in memory is changed.
  What is proved: slices.pdqsortOrdered on bytes in memory. Nothing else that lay in memory is changed.
  What is proved: slices.Sort sorts bytes in memory, however many up to 1,000,000. Nothing else that lay in memory is changed.
-/
import Derived.Test.YtnpgmekgmelamaaGreatDfBrk
import Derived.Test.YtnpgmekgmelamaaGreatDfMed
import Derived.Test.YtnpgmekgmelamaaGreatDfLet
import Derived.Sort.Walk13a
import Derived.Sort.LotB
import Derived.Sort.LotD3
import Derived.Deep.CutBlock
import Derived.Deep.CutRange
import Derived.Deep.RegionHeld
namespace Go.Proofs.YtnpgmekgmelamaaGreat
open Go.RowKit Go.Shelf Go.Sort

theorem scanS_go (d : Array UInt8) (b i : Nat) (h : i < b) (hl : ltB d[i]! d[i - 1]! = false) : scanSorted ltB d b i = scanSorted ltB d b (i + 1) := by
  rw [scanSorted.eq_def ltB d b i, if_pos (by simp [h, hl])]
theorem scanS_stop (d : Array UInt8) (b i : Nat) (h : ¬ i < b ∨ ltB d[i]! d[i - 1]! = true) : scanSorted ltB d b i = i := by
  rw [scanSorted.eq_def, if_neg (by
    rcases h with h | h
    · simp [h]
    · simp [h])]
theorem scanS_range (d : Array UInt8) (b : Nat) : ∀ (k i : Nat), b - i ≤ k → i ≤ b → i ≤ scanSorted ltB d b i ∧ scanSorted ltB d b i ≤ b
  | 0, i, hk, hi => by
    rw [scanS_stop d b i (.inl (by omega))]
    omega
  | k + 1, i, hk, hi => by
    by_cases h : i < b
    · cases hl : ltB d[i]! d[i - 1]! with
      | false =>
        rw [scanS_go d b i h hl]
        have := scanS_range d b k (i + 1) (by omega) (by omega)
        omega
      | true => rw [scanS_stop d b i (.inr hl)]; omega
    · rw [scanS_stop d b i (.inl h)]; omega
theorem shiftD_stop (d : Array UInt8) (j : Nat) (h : ltB d[j + 1]! d[j]! = false) : shiftDown ltB (j + 1) d = d := by
  rw [shiftDown, h]; rfl
theorem shiftD_go (d : Array UInt8) (j : Nat) (h : ltB d[j + 1]! d[j]! = true) : shiftDown ltB (j + 1) d = shiftDown ltB j (swp d (j + 1) j) := by
  rw [shiftDown, h]; rfl
theorem shiftU_end (d : Array UInt8) (b j : Nat) (h : ¬ j < b) : shiftUp ltB b j d = d := by
  rw [shiftUp.eq_def, if_neg h]
theorem shiftU_stop (d : Array UInt8) (b j : Nat) (hj : j < b) (h : ltB d[j]! d[j - 1]! = false) : shiftUp ltB b j d = d := by
  rw [shiftUp.eq_def, if_pos hj, h]; rfl
theorem shiftU_go (d : Array UInt8) (b j : Nat) (hj : j < b) (h : ltB d[j]! d[j - 1]! = true) : shiftUp ltB b j d = shiftUp ltB b (j + 1) (swp d j (j - 1)) := by
  rw [shiftUp.eq_def ltB b j d, if_pos hj, h]; rfl
theorem size_shiftD : ∀ (j : Nat) (d : Array UInt8), (shiftDown ltB j d).size = d.size
  | 0, d => rfl
  | j + 1, d => by
    cases h : ltB d[j + 1]! d[j]! with
    | false => rw [shiftD_stop d j h]
    | true => rw [shiftD_go d j h, size_shiftD, size_swp]
theorem size_shiftU (b : Nat) : ∀ (k j : Nat) (d : Array UInt8), b - j ≤ k → (shiftUp ltB b j d).size = d.size
  | 0, j, d, hk => by rw [shiftU_end d b j (by omega)]
  | k + 1, j, d, hk => by
    by_cases hj : j < b
    · cases h : ltB d[j]! d[j - 1]! with
      | false => rw [shiftU_stop d b j hj h]
      | true => rw [shiftU_go d b j hj h, size_shiftU b k _ _ (by omega), size_swp]
    · rw [shiftU_end d b j hj]

set_option maxRecDepth 100000 in
set_option maxHeartbeats 4000000 in
/-- slices.partialInsertionSortOrdered. -/
theorem partial_any (blk off cap a b : Nat) (d : Array UInt8) (w : World) (hH : Holds encB w blk off d) (hab : a < b) (hb : b ≤ d.size) (hsz : d.size ≤ 1000000) :
    Calls Tryz.prog 170 #[.slice (some ⟨blk, off, none⟩) d.size cap, .int .i64 (a : Int), .int .i64 (b : Int)] w fun e w' => e = .returned (.bool (partialInsertionSort ltB d a b).2) ∧ Holds encB w' blk off (partialInsertionSort ltB d a b).1 ∧ OnlyAt blk w.heap.size w w' := by
  have C := Lib.hid less_any
  obtain ⟨n, hn⟩ : ∃ n, d.size = n := ⟨_, rfl⟩
  have HK : Hid (Holds encB w blk off d) := hH
  have HS : Hid (d.size = n) := hn
  have HB : Hid (OnlyAt blk w.heap.size w w) := Lib.hid (OnlyAt.refl _ _ _)
  rw [hn] at hb hsz
  rw [hn]
  clear hH hn
  obtain ⟨P, hP⟩ : ∃ P, partialInsertionSort ltB d a b = P := ⟨_, rfl⟩
  have HP : Hid (partialIns ltB a b 5 (a + 1) d = P) := Lib.hid (by rw [← hP]; rfl)
  rw [hP]
  obtain ⟨l, hl⟩ : ∃ l, b - a = l := ⟨_, rfl⟩
  have l1 : (b : Int) - (a : Int) = (l : Int) := by omega
  have l2 : IntKind.i64.wrap (l : Int) = (l : Int) := by rw [IntKind.wrap_i64]; omega
  clear hP
  go_enter Tryz.func170, Tryz.ntmps170
  go_wp2_with fail
  go_loopg [7, 8] 5 (fun gk s7 s8 wr => ∃ (i : Nat) (dk : Array UInt8), s7 = .int .i64 i ∧ s8 = .int .i64 ((5 - gk : Nat) : Int) ∧ gk ≤ 5 ∧ a < i ∧ i ≤ b ∧ Hid (dk.size = n) ∧ Hid (Holds encB wr blk off dk) ∧ Hid (OnlyAt blk w.heap.size w wr) ∧ Hid (partialIns ltB a b gk i dk = P))
  case atStart => exact ⟨a + 1, d, by go_num, rfl, Nat.le_refl _, by omega, by omega, HS, HK, HB, HP⟩
  case round =>
    clear HS HK HB HP
    obtain ⟨i0, dk, rfl, rfl, hg5, hai, hib, HS, HK, HB, HP⟩ := hrel
    cases gk with
    | zero =>
      have HE : Hid ((dk, false) = P) := HP
      rw [show ((5 - 0 : Nat) : Int) = 5 from rfl]
      have z5 : ¬ (5 : Int) < 5 := by omega
      go_wp2
      go_ret
      exact ⟨by rw [← HE.out]; rfl, by rw [← HE.out]; exact HK.out, HB.out⟩
    | succ g' =>
      obtain ⟨st, hst⟩ : ∃ st, 5 - (g' + 1) = st := ⟨_, rfl⟩
      rw [hst]
      have st5 : (st : Int) < 5 := by omega
      have st1 : (st : Int) + 1 = ((5 - g' : Nat) : Int) := by omega
      have HP' : Hid ((if scanSorted ltB dk b i0 = b then (dk, true) else if l < 50 then (dk, false) else
        partialIns ltB a b g' (scanSorted ltB dk b i0) (fixUp ltB b (scanSorted ltB dk b i0) (fixDown ltB a (scanSorted ltB dk b i0) (swp dk (scanSorted ltB dk b i0) (scanSorted ltB dk b i0 - 1))))) = P) := Lib.hid (by
        have := HP.out
        rw [partialIns_succ, hl] at this
        exact this)
      clear HP
      go_upto_block 2 with fail
      go_cut [7] from 13 to 132 (fun s wx => s = .int .i64 ((scanSorted ltB dk b i0 : Nat) : Int) ∧ Hid (Holds encB wx blk off dk) ∧ Hid (OnlyAt blk w.heap.size w wx))
      case first =>
        go_wp2_with fail
        go_loopg [7] (b + 1 - i0) (fun gq s wr => ∃ i : Nat, s = .int .i64 i ∧ a < i ∧ i ≤ b ∧ b + 1 - i ≤ gq ∧ Hid (Holds encB wr blk off dk) ∧ Hid (OnlyAt blk w.heap.size w wr) ∧ Hid (scanSorted ltB dk b i = scanSorted ltB dk b i0))
        case atStart => exact ⟨i0, by go_num, hai, hib, Nat.le_refl _, HK, HB, Lib.hid rfl⟩
        case round =>
          clear HK HB
          obtain ⟨i, rfl, hai, hib, hg, HK, HB, HO⟩ := hrel
          by_cases hij : i < b
          · have hijz : (i : Int) < (b : Int) := by omega
            have hd : decide ((i : Int) < (b : Int)) = true := decide_eq_true hijz
            obtain ⟨ip, hip⟩ : ∃ ip, i - 1 = ip := ⟨_, rfl⟩
            have q1 : (i : Int) - 1 = (ip : Int) := by omega
            have q2 : IntKind.i64.wrap (ip : Int) = (ip : Int) := by rw [IntKind.wrap_i64]; omega
            have ci := (HK.out i (by have := HS.out; omega)).1
            have cp := (HK.out ip (by have := HS.out; omega)).1
            obtain ⟨x, hx⟩ : ∃ x, dk[i]! = x := ⟨_, rfl⟩
            obtain ⟨y, hy⟩ : ∃ y, dk[ip]! = y := ⟨_, rfl⟩
            rw [hx] at ci
            rw [hy] at cp
            unfold encB at ci cp
            have i0' : (0 : Int) ≤ (i : Int) := by omega
            have i1' : (i : Int) < (n : Int) := by omega
            have p0' : (0 : Int) ≤ (ip : Int) := by omega
            have p1' : (ip : Int) < (n : Int) := by omega
            have hxl := Lib.hid hx
            have hyl := Lib.hid hy
            have hpl := Lib.hid hip
            clear hx hy hip
            obtain ⟨gp, hgp⟩ : ∃ gp, gk = gp + 1 := ⟨gk - 1, by omega⟩
            subst hgp
            cases hlv : ltB x y with
            | false =>
              have HQ : Hid (scanSorted ltB dk b (i + 1) = scanSorted ltB dk b i0) := Lib.hid (by rw [← HO.out, scanS_go dk b i hij (by rw [hpl.out, hxl.out, hyl.out, hlv])])
              have C2 : Hid (∀ w, Calls Tryz.prog 171 #[.int .u8 (x.toNat : Int), .int .u8 (y.toNat : Int)] w fun e w' => e = .returned (.bool false) ∧ w' = w) := Lib.hid (fun w => by have := C.out x y w; rwa [hlv] at this)
              clear hlv
              go_wp2_with fail
              go_quiet (first | (go_at_call 171; refine Calls.quiet_of_same (C2.out _)))
              go_wp2
              go_roundg gp
              case measure => omega
              case rel => exact ⟨i + 1, by go_num, by omega, by omega, by omega, Lib.hid (holds_drewN HK.out _), Lib.hid (only_drewN HB.out _), HQ⟩
            | true =>
              have HQ : Hid (i = scanSorted ltB dk b i0) := Lib.hid (by rw [← HO.out, scanS_stop dk b i (.inr (by rw [hpl.out, hxl.out, hyl.out, hlv]))])
              have C2 : Hid (∀ w, Calls Tryz.prog 171 #[.int .u8 (x.toNat : Int), .int .u8 (y.toNat : Int)] w fun e w' => e = .returned (.bool true) ∧ w' = w) := Lib.hid (fun w => by have := C.out x y w; rwa [hlv] at this)
              clear hlv
              go_wp2_with fail
              go_quiet (first | (go_at_call 171; refine Calls.quiet_of_same (C2.out _)))
              go_wp2
              go_meet
              exact ⟨by rw [← HQ.out], Lib.hid (holds_drewN HK.out _), Lib.hid (only_drewN HB.out _)⟩
          · have hijz : ¬ (i : Int) < (b : Int) := by omega
            have hd : decide ((i : Int) < (b : Int)) = false := decide_eq_false hijz
            have HQ : Hid (i = scanSorted ltB dk b i0) := Lib.hid (by rw [← HO.out, scanS_stop dk b i (.inl hij)])
            go_wp2_with fail
            go_quiet (fail)
            go_wp2
            go_meet
            exact ⟨by rw [← HQ.out], Lib.hid (holds_drewN HK.out _), Lib.hid (only_drewN HB.out _)⟩
      case rest =>
        clear HK HB
        obtain ⟨rfl, HK, HB⟩ := hcut
        have hsr := scanS_range dk b (b - i0) i0 (Nat.le_refl _) hib
        obtain ⟨i, hi⟩ : ∃ i, scanSorted ltB dk b i0 = i := ⟨_, rfl⟩
        rw [hi] at hsr HP'
        rw [hi]
        have hai2 : a < i := by omega
        have hib2 : i ≤ b := hsr.2
        clear hsr hi hai hib
        by_cases hie : i = b
        · subst hie
          have HE : Hid ((dk, true) = P) := Lib.hid (by have := HP'.out; rwa [if_pos rfl] at this)
          clear HP'
          go_wp2
          refine bodyPost_ret (v := .bool true) (by simp [results, Tryz.results170, go_sem]) rfl ?_
          exact ⟨by rw [← HE.out], by rw [← HE.out]; exact HK.out, HB.out⟩
        · have hiz : ¬ (i : Int) = (b : Int) := by omega
          have hizb : ((i : Int) == (b : Int)) = false := by simpa using hiz
          by_cases h50 : l < 50
          · have h50z : (l : Int) < 50 := by omega
            have HE : Hid ((dk, false) = P) := Lib.hid (by have := HP'.out; rwa [if_neg hie, if_pos h50] at this)
            clear HP'
            go_wp2
            refine bodyPost_ret (v := .bool false) (by simp [results, Tryz.results170, go_sem]) rfl ?_
            exact ⟨by rw [← HE.out], by rw [← HE.out]; exact HK.out, HB.out⟩
          · have h50z : ¬ (l : Int) < 50 := by omega
            have HE : Hid (partialIns ltB a b g' i (fixUp ltB b i (fixDown ltB a i (swp dk i (i - 1)))) = P) := Lib.hid (by have := HP'.out; rwa [if_neg hie, if_neg h50] at this)
            clear HP'
            obtain ⟨ip, hip⟩ : ∃ ip, i - 1 = ip := ⟨_, rfl⟩
            rw [hip] at HE
            have q1 : (i : Int) - 1 = (ip : Int) := by omega
            have q2 : IntKind.i64.wrap (ip : Int) = (ip : Int) := by rw [IntKind.wrap_i64]; omega
            obtain ⟨ia, hia⟩ : ∃ ia, i - a = ia := ⟨_, rfl⟩
            obtain ⟨bi, hbi⟩ : ∃ bi, b - i = bi := ⟨_, rfl⟩
            have q3 : (i : Int) - (a : Int) = (ia : Int) := by omega
            have q4 : IntKind.i64.wrap (ia : Int) = (ia : Int) := by rw [IntKind.wrap_i64]; omega
            have q5 : (b : Int) - (i : Int) = (bi : Int) := by omega
            have q6 : IntKind.i64.wrap (bi : Int) = (bi : Int) := by rw [IntKind.wrap_i64]; omega
            have ci := (HK.out i (by have := HS.out; omega)).1
            have cj := (HK.out ip (by have := HS.out; omega)).1
            have fi := (HK.out i (by have := HS.out; omega)).2
            have fj := (HK.out ip (by have := HS.out; omega)).2
            obtain ⟨xi, hxi⟩ : ∃ x, dk[i]! = x := ⟨_, rfl⟩
            obtain ⟨xj, hxj⟩ : ∃ x, dk[ip]! = x := ⟨_, rfl⟩
            rw [hxi] at ci
            rw [hxj] at cj
            unfold encB at ci cj
            have cs : (wc.setCell ⟨blk, off + i, none⟩ (.int .u8 (xj.toNat : Int))).cell? ⟨blk, off + ip, none⟩ = some (.int .u8 (xj.toNat : Int)) := by
              by_cases e : i = ip
              · rw [e] at ci ⊢
                exact World.cell?_setCell_same _ _ _ ci
              · rw [World.cell?_setCell_other _ _ _ _ (fun e2 => e (by injection e2 with _ e2; omega))]
                exact cj
            have HW : Hid (Holds encB ((wc.setCell ⟨blk, off + i, none⟩ (.int .u8 (xj.toNat : Int))).setCell ⟨blk, off + ip, none⟩ (.int .u8 (xi.toNat : Int))) blk off (swp dk i ip)) := Lib.hid (by
              have := swap_holds2 HK.out (i := i) (j := ip) (by have := HS.out; omega) (by have := HS.out; omega)
              rw [hxi, hxj] at this
              exact this)
            have HWB : Hid (OnlyAt blk w.heap.size w ((wc.setCell ⟨blk, off + i, none⟩ (.int .u8 (xj.toNat : Int))).setCell ⟨blk, off + ip, none⟩ (.int .u8 (xi.toNat : Int)))) := Lib.hid ((HB.out.set (off + i) _).set (off + ip) _)
            have ii0 : (0 : Int) ≤ (i : Int) := by omega
            have ii1 : (i : Int) < (n : Int) := by omega
            have jj0 : (0 : Int) ≤ (ip : Int) := by omega
            have jj1 : (ip : Int) < (n : Int) := by omega
            clear hxi hxj HK HB
            obtain ⟨d1, hd1⟩ : ∃ d1, swp dk i ip = d1 := ⟨_, rfl⟩
            rw [hd1] at HW HE
            have HS1 : Hid (d1.size = n) := Lib.hid (by rw [← hd1, size_swp]; exact HS.out)
            clear hd1 HS h50
            go_wp2_with fail
            go_region
            all_goals
              have HK1 := HW
              have HB1 := Lib.hid HWB.out.drew
              clear HWB HW
              go_upto_if 61 with fail
              go_cut [9] from 13 to 132 (fun s9 wx => Hid (Holds encB wx blk off (fixDown ltB a i d1)) ∧ Hid (OnlyAt blk w.heap.size w wx))
              case first =>
                obtain ⟨T, hT⟩ : ∃ T, fixDown ltB a i d1 = T := ⟨_, rfl⟩
                have HTT := Lib.hid hT
                by_cases h2 : 2 ≤ ia
                · have h2z : (2 : Int) ≤ (ia : Int) := by omega
                  have HT : Hid (shiftDown ltB ip d1 = T) := Lib.hid (by
                    rw [← hT]
                    unfold fixDown
                    rw [hia, if_pos h2, hip])
                  clear hT HE
                  go_wp2_with fail
                  go_loopg [9] (ip + 1) (fun gq s9 wr => ∃ (j : Nat) (dj : Array UInt8), s9 = .int .i64 j ∧ j ≤ ip ∧ j + 1 ≤ gq ∧ Hid (dj.size = n) ∧ Hid (Holds encB wr blk off dj) ∧ Hid (OnlyAt blk w.heap.size w wr) ∧ Hid (shiftDown ltB j dj = T))
                  case atStart => exact ⟨ip, d1, by go_num, Nat.le_refl _, Nat.le_refl _, HS1, HK1, HB1, HT⟩
                  case round =>
                    clear HS1 HK1 HB1 HT
                    obtain ⟨j, dj, rfl, hjp2, hjg, HS, HK, HB, HO⟩ := hrel
                    by_cases hj1 : 1 ≤ j
                    · have hj1z : (1 : Int) ≤ (j : Int) := by omega
                      obtain ⟨jp, hjp⟩ : ∃ jp, j - 1 = jp := ⟨_, rfl⟩
                      have q1 : (j : Int) - 1 = (jp : Int) := by omega
                      have q2 : IntKind.i64.wrap (jp : Int) = (jp : Int) := by rw [IntKind.wrap_i64]; omega
                      have cj := (HK.out j (by have := HS.out; omega)).1
                      have cp := (HK.out jp (by have := HS.out; omega)).1
                      have fj := (HK.out j (by have := HS.out; omega)).2
                      have fp := (HK.out jp (by have := HS.out; omega)).2
                      obtain ⟨xj, hxj⟩ : ∃ x, dj[j]! = x := ⟨_, rfl⟩
                      obtain ⟨xp, hxp⟩ : ∃ x, dj[jp]! = x := ⟨_, rfl⟩
                      rw [hxj] at cj
                      rw [hxp] at cp
                      unfold encB at cj cp
                      have XJ := Lib.hid hxj
                      have XP := Lib.hid hxp
                      have hjl := Lib.hid hjp
                      have jj0 : (0 : Int) ≤ (j : Int) := by omega
                      have jj1 : (j : Int) < (n : Int) := by omega
                      have pp0 : (0 : Int) ≤ (jp : Int) := by omega
                      have pp1 : (jp : Int) < (n : Int) := by omega
                      have hne : j ≠ jp := by omega
                      clear hxj hxp
                      cases hlv : ltB xj xp with
                      | false =>
                        have HQ : Hid (dj = T) := Lib.hid (by rw [← HO.out]; have := shiftD_stop dj jp (by rw [show jp + 1 = j by omega, XJ.out, XP.out, hlv]); rw [show jp + 1 = j by omega] at this; exact this.symm)
                        have C2 : Hid (∀ w, Calls Tryz.prog 171 #[.int .u8 (xj.toNat : Int), .int .u8 (xp.toNat : Int)] w fun e w' => e = .returned (.bool false) ∧ w' = w) := Lib.hid (fun w => by have := C.out xj xp w; rwa [hlv] at this)
                        clear hlv hjp
                        go_wp2_with fail
                        go_quiet (first | (go_at_call 171; refine Calls.quiet_of_same (C2.out _)))
                        go_wp2
                        go_meet
                        exact ⟨by rw [HTT.out, ← HQ.out]; exact Lib.hid (holds_drewN HK.out _), Lib.hid (only_drewN HB.out _)⟩
                      | true =>
                        have HQ : Hid (shiftDown ltB jp (swp dj j jp) = T) := Lib.hid (by rw [← HO.out]; have := shiftD_go dj jp (by rw [show jp + 1 = j by omega, XJ.out, XP.out, hlv]); rw [show jp + 1 = j by omega] at this; exact this.symm)
                        have C2 : Hid (∀ w, Calls Tryz.prog 171 #[.int .u8 (xj.toNat : Int), .int .u8 (xp.toNat : Int)] w fun e w' => e = .returned (.bool true) ∧ w' = w) := Lib.hid (fun w => by have := C.out xj xp w; rwa [hlv] at this)
                        obtain ⟨gp, hgp⟩ : ∃ gp, gk = gp + 1 := ⟨gk - 1, by omega⟩
                        subst hgp
                        clear hlv
                        go_wp2_with fail
                        go_quiet (first | (go_at_call 171; refine Calls.quiet_of_same (C2.out _)))
                        go_wp2
                        go_region
                        all_goals
                          go_wp2
                          go_roundg gp
                          case measure => omega
                          case rel =>
                            refine ⟨jp, swp dj j jp, by go_num, by omega, by omega, Lib.hid (by rw [size_swp]; exact HS.out), Lib.hid ?_, Lib.hid (only_swap HB.out _ _ _ _ _), HQ⟩
                            have := swap_holds (holds_drewN HK.out (nq + 1)) (i := j) (j := jp) (by have := HS.out; omega) (by have := HS.out; omega) hne
                            rw [XJ.out, XP.out] at this
                            exact this
                    · obtain rfl : j = 0 := by omega
                      have hj1z : ¬ (1 : Int) ≤ ((0 : Nat) : Int) := by omega
                      have HQ : Hid (dj = T) := HO
                      go_wp2
                      go_meet
                      exact ⟨by rw [HTT.out, ← HQ.out]; exact HK, HB⟩
                · have h2z : ¬ (2 : Int) ≤ (ia : Int) := by omega
                  have HT : Hid (d1 = T) := Lib.hid (by
                    rw [← hT]
                    unfold fixDown
                    rw [hia, if_neg h2])
                  clear hT HE
                  go_wp2
                  go_meet
                  exact ⟨by rw [HTT.out, ← HT.out]; exact HK1, HB1⟩
              case rest =>
                obtain ⟨HK2, HB2⟩ := hcut
                have HS2 : Hid ((fixDown ltB a i d1).size = n) := Lib.hid (by
                  unfold fixDown
                  split
                  · rw [size_shiftD]; exact HS1.out
                  · exact HS1.out)
                obtain ⟨d2, hd2⟩ : ∃ d2, fixDown ltB a i d1 = d2 := ⟨_, rfl⟩
                rw [hd2] at HS2 HE HK2
                clear hd2 HS1 HK1 HB1
                obtain ⟨T, hT⟩ : ∃ T, fixUp ltB b i d2 = T := ⟨_, rfl⟩
                have HS3 : Hid (T.size = n) := Lib.hid (by
                  rw [← hT]
                  unfold fixUp
                  split
                  · rw [size_shiftU b (b - (i + 1)) _ _ (Nat.le_refl _)]; exact HS2.out
                  · exact HS2.out)
                rw [hT] at HE
                have HE3 := HE
                by_cases h2 : 2 ≤ bi
                · have h2z : (2 : Int) ≤ (bi : Int) := by omega
                  have HT : Hid (shiftUp ltB b (i + 1) d2 = T) := Lib.hid (by
                    rw [← hT]
                    unfold fixUp
                    rw [hbi, if_pos h2])
                  clear hT
                  go_wp2_with fail
                  go_loopg [10] (b + 1 - i) (fun gq s10 wr => ∃ (j : Nat) (dj : Array UInt8), s10 = .int .i64 j ∧ 1 ≤ j ∧ j ≤ b ∧ b - j + 1 ≤ gq ∧ Hid (dj.size = n) ∧ Hid (Holds encB wr blk off dj) ∧ Hid (OnlyAt blk w.heap.size w wr) ∧ Hid (shiftUp ltB b j dj = T))
                  case atStart => exact ⟨i + 1, d2, by go_num, by omega, by omega, by omega, HS2, HK2, HB2, HT⟩
                  case round =>
                    clear HS2 HK2 HB2 HT
                    obtain ⟨j, dj, rfl, hj1, hjb2, hjg, HS, HK, HB, HO⟩ := hrel
                    by_cases hjb : j < b
                    · have hjbz : (j : Int) < (b : Int) := by omega
                      obtain ⟨jp, hjp⟩ : ∃ jp, j - 1 = jp := ⟨_, rfl⟩
                      have q1 : (j : Int) - 1 = (jp : Int) := by omega
                      have q2 : IntKind.i64.wrap (jp : Int) = (jp : Int) := by rw [IntKind.wrap_i64]; omega
                      have cj := (HK.out j (by have := HS.out; omega)).1
                      have cp := (HK.out jp (by have := HS.out; omega)).1
                      have fj := (HK.out j (by have := HS.out; omega)).2
                      have fp := (HK.out jp (by have := HS.out; omega)).2
                      obtain ⟨xj, hxj⟩ : ∃ x, dj[j]! = x := ⟨_, rfl⟩
                      obtain ⟨xp, hxp⟩ : ∃ x, dj[jp]! = x := ⟨_, rfl⟩
                      rw [hxj] at cj
                      rw [hxp] at cp
                      unfold encB at cj cp
                      have XJ := Lib.hid hxj
                      have XP := Lib.hid hxp
                      have hjl := Lib.hid hjp
                      have jj0 : (0 : Int) ≤ (j : Int) := by omega
                      have jj1 : (j : Int) < (n : Int) := by omega
                      have pp0 : (0 : Int) ≤ (jp : Int) := by omega
                      have pp1 : (jp : Int) < (n : Int) := by omega
                      have hne : j ≠ jp := by omega
                      clear hxj hxp
                      cases hlv : ltB xj xp with
                      | false =>
                        have HQ : Hid (dj = T) := Lib.hid (by rw [← HO.out]; exact (shiftU_stop dj b j hjb (by rw [hjl.out, XJ.out, XP.out, hlv])).symm)
                        have C2 : Hid (∀ w, Calls Tryz.prog 171 #[.int .u8 (xj.toNat : Int), .int .u8 (xp.toNat : Int)] w fun e w' => e = .returned (.bool false) ∧ w' = w) := Lib.hid (fun w => by have := C.out xj xp w; rwa [hlv] at this)
                        clear hlv hjp
                        go_wp2_with fail
                        go_quiet (first | (go_at_call 171; refine Calls.quiet_of_same (C2.out _)))
                        go_wp2
                        go_roundg g'
                        case measure => omega
                        case rel => exact ⟨i, T, rfl, by first | rfl | (congr 1) | go_num, by omega, hai2, hib2, HS3, by rw [← HQ.out]; exact Lib.hid (holds_drewN HK.out _), Lib.hid (only_drewN HB.out _), HE3⟩
                      | true =>
                        have HQ : Hid (shiftUp ltB b (j + 1) (swp dj j jp) = T) := Lib.hid (by rw [← HO.out]; have := shiftU_go dj b j hjb (by rw [hjl.out, XJ.out, XP.out, hlv]); rw [hjl.out] at this; exact this.symm)
                        have C2 : Hid (∀ w, Calls Tryz.prog 171 #[.int .u8 (xj.toNat : Int), .int .u8 (xp.toNat : Int)] w fun e w' => e = .returned (.bool true) ∧ w' = w) := Lib.hid (fun w => by have := C.out xj xp w; rwa [hlv] at this)
                        obtain ⟨gp, hgp⟩ : ∃ gp, gk = gp + 1 := ⟨gk - 1, by omega⟩
                        subst hgp
                        clear hlv
                        go_wp2_with fail
                        go_quiet (first | (go_at_call 171; refine Calls.quiet_of_same (C2.out _)))
                        go_wp2
                        go_region
                        all_goals
                          go_wp2
                          go_roundg gp
                          case measure => omega
                          case rel =>
                            refine ⟨j + 1, swp dj j jp, by go_num, by omega, by omega, by omega, Lib.hid (by rw [size_swp]; exact HS.out), Lib.hid ?_, Lib.hid (only_swap HB.out _ _ _ _ _), HQ⟩
                            have := swap_holds (holds_drewN HK.out (nq + 1)) (i := j) (j := jp) (by have := HS.out; omega) (by have := HS.out; omega) hne
                            rw [XJ.out, XP.out] at this
                            exact this
                    · have hjbz : ¬ (j : Int) < (b : Int) := by omega
                      have HQ : Hid (dj = T) := Lib.hid (by rw [← HO.out, shiftU_end dj b j hjb])
                      go_wp2
                      go_roundg g'
                      case measure => omega
                      case rel => exact ⟨i, T, rfl, by first | rfl | (congr 1) | go_num, by omega, hai2, hib2, HS3, by rw [← HQ.out]; exact HK, HB, HE3⟩
                · have h2z : ¬ (2 : Int) ≤ (bi : Int) := by omega
                  have HT : Hid (d2 = T) := Lib.hid (by
                    rw [← hT]
                    unfold fixUp
                    rw [hbi, if_neg h2])
                  clear hT
                  go_wp2
                  go_roundg g'
                  case measure => omega
                  case rel => exact ⟨i, T, rfl, by first | rfl | (congr 1) | go_num, by omega, hai2, hib2, HS3, by rw [← HT.out]; exact HK2, HB2, HE3⟩
end Go.Proofs.YtnpgmekgmelamaaGreat

namespace Go.Proofs.YtnpgmekgmelamaaGreat
open Go.RowKit Go.Shelf Go.Sort

theorem below_only {blk : Nat} {W W' : World} (h : RowKit.Below W.heap.size W W') : OnlyAt blk W.heap.size W W' := ⟨h.os, h.tape, h.output, h.size, fun k hk _ => h.block k hk⟩
theorem holds_below {blk off : Nat} {d : Array UInt8} {W W' : World} (h : Holds encB W blk off d) (hlt : blk < W.heap.size) (hb : RowKit.Below W.heap.size W W') : Holds encB W' blk off d := fun k hk => by
  obtain ⟨h1, h2⟩ := h k hk
  exact ⟨by rw [World.cell?_of_block (w := W) (hb.block blk hlt)]; exact h1, by rw [World.frozen?_of_block (w := W) (hb.block blk hlt)]; exact h2⟩
theorem code_two {h : Hint} (e : hintCode h = 2) : h = .decreasing := by cases h <;> simp [hintCode] at e ⊢
theorem code_one {h : Hint} : decide (h = .increasing) = (hintCode h == 1) := by cases h <;> decide

/-- What is known of a round's values. -/
structure RdAt (n : Nat) (dk : Array UInt8) (a b lim : Nat) (wb wp : Bool) (T : Array UInt8) (r : Rd UInt8) : Prop where
  s1 : r.d1.size = n
  s2 : r.d2.size = n
  s3 : r.pi.1.size = n
  pv : a ≤ r.pivot ∧ r.pivot < b
  cr : a ≤ r.c.1 ∧ r.c.1 < b
  b3 : Go.Sort.Below ltB a b r.pi.1
  brk : wb = false → r.d1 = breakPatterns dk a b ∧ r.lim = lim - 1
  nob : wb = true → r.d1 = dk ∧ r.lim = lim
  c : choosePivot ltB r.d1 a b = r.c
  dec : r.c.2 = .decreasing → reverseRange r.d1 a b = r.d2 ∧ r.pivot = (b - 1) - (r.c.1 - a) ∧ r.hint = .increasing
  ndc : r.c.2 ≠ .decreasing → r.d2 = r.d1 ∧ r.pivot = r.c.1 ∧ r.hint = r.c.2
  yes : (wb && wp && decide (r.hint = .increasing)) = true → partialInsertionSort ltB r.d2 a b = r.pi
  no : (wb && wp && decide (r.hint = .increasing)) = false → r.pi = (r.d2, false)
  lle : r.lim ≤ lim
  done : r.pi.2 = true → r.pi.1 = T
  eq : r.pi.2 = false → (decide (a > 0) && !ltB r.pi.1[a - 1]! r.pi.1[r.pivot]!) = true → a < (partitionEqual ltB r.pi.1 a b r.pivot).1 ∧ (partitionEqual ltB r.pi.1 a b r.pivot).1 ≤ b ∧ (partitionEqual ltB r.pi.1 a b r.pivot).2.size = n ∧ Go.Sort.Below ltB (partitionEqual ltB r.pi.1 a b r.pivot).1 b (partitionEqual ltB r.pi.1 a b r.pivot).2 ∧
    pdq ltB (partitionEqual ltB r.pi.1 a b r.pivot).2 (partitionEqual ltB r.pi.1 a b r.pivot).1 b r.lim wb wp = T
  prt : r.pi.2 = false → (decide (a > 0) && !ltB r.pi.1[a - 1]! r.pi.1[r.pivot]!) = false → ∀ mid ap d4, partition ltB r.pi.1 a b r.pivot = (mid, ap, d4) → a ≤ mid ∧ mid < b ∧ d4.size = n ∧ Go.Sort.Below ltB a mid d4 ∧ Go.Sort.Below ltB (mid + 1) b d4 ∧
    (mid - a < b - mid → (pdq ltB d4 a mid r.lim true true).size = n ∧ Go.Sort.Below ltB (mid + 1) b (pdq ltB d4 a mid r.lim true true) ∧ pdq ltB (pdq ltB d4 a mid r.lim true true) (mid + 1) b r.lim (decide (mid - a ≥ (b - a) / 8)) ap = T) ∧
    (¬ mid - a < b - mid → (pdq ltB d4 (mid + 1) b r.lim true true).size = n ∧ Go.Sort.Below ltB a mid (pdq ltB d4 (mid + 1) b r.lim true true) ∧ pdq ltB (pdq ltB d4 (mid + 1) b r.lim true true) a mid r.lim (decide (b - mid ≥ (b - a) / 8)) ap = T)

theorem pdq_stm : pdq_stmt ltB := pdq_holds insertionSort_holds heapSort_holds partialInsertionSort_holds (partition_holds ltB) (partitionEqual_holds ltB) reverseRange_holds
theorem rd_at {n : Nat} {dk : Array UInt8} {a b lim : Nat} {wb wp : Bool} {T : Array UInt8} (h12 : ¬ b - a ≤ 12) (hl : ¬ lim = 0) (hb : b ≤ n) (hs : dk.size = n) (hB : Go.Sort.Below ltB a b dk) (hT : pdq ltB dk a b lim wb wp = T) : ∃ r, RdAt n dk a b lim wb wp T r := by
  obtain ⟨s1, B1, hc1, s2, B2, hpv, s3, B3⟩ := rd_facts (limit := lim) (wb := wb) (wp := wp) swo_ltB partialInsertionSort_holds reverseRange_holds (show a < b by omega) (show b ≤ dk.size by omega) hB
  refine ⟨rd ltB dk a b lim wb wp, s1.trans hs, s2.trans hs, s3.trans hs, hpv, hc1, B3, fun h => (by subst h; exact rd_false), fun h => (by subst h; exact rd_true), rd_c.symm, fun h => ?_, fun h => rd_not h, fun h => (rd_pi_yes h).symm, fun h => rd_pi_no h, rd_lim_le, fun h => ?_, fun h1 h2 => ?_, fun h1 h2 mid ap d4 hx => ?_⟩
  · obtain ⟨e1, e2, e3⟩ := rd_dec h
    exact ⟨e1.symm, e2, e3⟩
  · rw [← hT, pdq_done h12 hl h]
  · have ha0 : 0 < a := by
      have := (Bool.and_eq_true _ _ ▸ h2).1
      simpa using this
    have hnl : ltB (rd ltB dk a b lim wb wp).pi.1[a - 1]! (rd ltB dk a b lim wb wp).pi.1[(rd ltB dk a b lim wb wp).pivot]! = false := by
      have := (Bool.and_eq_true _ _ ▸ h2).2
      simpa using this
    obtain ⟨g1, g2, g3, g4, _⟩ := round_eq swo_ltB (partitionEqual_holds ltB) ha0 hpv.1 hpv.2 (by omega) B3 hnl rfl
    exact ⟨g1, g2, g3.trans (s3.trans hs), g4, by rw [← hT, pdq_eq h12 hl h1 h2 ⟨g1, g2⟩]⟩
  · obtain ⟨g1, g2, g3, g4, g5, g6, g7⟩ := round_part swo_ltB (partition_holds ltB) hpv.1 hpv.2 (by omega) B3 hx
    have hm : (partition ltB (rd ltB dk a b lim wb wp).pi.1 a b (rd ltB dk a b lim wb wp).pivot).1 = mid := by rw [hx]
    refine ⟨g1, g2, g3.trans (s3.trans hs), g4, g5, fun hlt => ?_, fun hlt => ?_⟩
    · have hp := pdq_stm swo_ltB d4 a mid (rd ltB dk a b lim wb wp).lim true true g1 (by omega) g4
      refine ⟨hp.1.1.trans (g3.trans (s3.trans hs)), (g6 _ hp.1 hp.2).1, ?_⟩
      rw [← hT, pdq_left h12 hl h1 h2 (by rw [hm]; exact ⟨g1, g2⟩) (by rw [hm]; exact hlt), hx]
    · have hp := pdq_stm swo_ltB d4 (mid + 1) b (rd ltB dk a b lim wb wp).lim true true (by omega) (by omega) g5
      refine ⟨hp.1.1.trans (g3.trans (s3.trans hs)), (g7 _ hp.1 hp.2).1, ?_⟩
      rw [← hT, pdq_right h12 hl h1 h2 (by rw [hm]; exact ⟨g1, g2⟩) (by rw [hm]; exact hlt), hx]

/-- The callees' contracts, where the slice has n bytes. -/
structure CalleesN (n blk off cap : Nat) : Prop where
  ins : ∀ (W : World) (dk : Array UInt8) (x y : Nat), Holds encB W blk off dk → dk.size = n → x ≤ y → y ≤ n → Calls Tryz.prog 165 #[.slice (some ⟨blk, off, none⟩) n cap, .int .i64 (x : Int), .int .i64 (y : Int)] W fun e w' => e = .returned (.tuple #[]) ∧ Holds encB w' blk off (insertionSort ltB dk x y) ∧ OnlyAt blk W.heap.size W w'
  heap : ∀ (W : World) (dk : Array UInt8) (x y : Nat), Holds encB W blk off dk → dk.size = n → x < y → y ≤ n → Calls Tryz.prog 166 #[.slice (some ⟨blk, off, none⟩) n cap, .int .i64 (x : Int), .int .i64 (y : Int)] W fun e w' => e = .returned (.tuple #[]) ∧ Holds encB w' blk off (heapSort ltB dk x y) ∧ OnlyAt blk W.heap.size W w'
  brk : ∀ (W : World) (dk : Array UInt8) (x y : Nat), Holds encB W blk off dk → dk.size = n → blk < W.heap.size → x + 8 ≤ y → y ≤ n → Calls Tryz.prog 167 #[.slice (some ⟨blk, off, none⟩) n cap, .int .i64 (x : Int), .int .i64 (y : Int)] W fun e w' => e = .returned (.tuple #[]) ∧ Holds encB w' blk off (breakPatterns dk x y) ∧ OnlyAt blk W.heap.size W w'
  piv : ∀ (W : World) (dk : Array UInt8) (x y : Nat), Holds encB W blk off dk → dk.size = n → blk < W.heap.size → x + 12 < y → y ≤ n → Calls Tryz.prog 168 #[.slice (some ⟨blk, off, none⟩) n cap, .int .i64 (x : Int), .int .i64 (y : Int)] W fun e w' => e = .returned (.tuple #[.int .i64 ((choosePivot ltB dk x y).1 : Int), .int .i64 (hintCode (choosePivot ltB dk x y).2)]) ∧ RowKit.Below W.heap.size W w'
  rev : ∀ (W : World) (dk : Array UInt8) (x y : Nat), Holds encB W blk off dk → dk.size = n → x < y → y ≤ n → Calls Tryz.prog 169 #[.slice (some ⟨blk, off, none⟩) n cap, .int .i64 (x : Int), .int .i64 (y : Int)] W fun e w' => e = .returned (.tuple #[]) ∧ Holds encB w' blk off (reverseRange dk x y) ∧ OnlyAt blk W.heap.size W w'
  pin : ∀ (W : World) (dk : Array UInt8) (x y : Nat), Holds encB W blk off dk → dk.size = n → x < y → y ≤ n → Calls Tryz.prog 170 #[.slice (some ⟨blk, off, none⟩) n cap, .int .i64 (x : Int), .int .i64 (y : Int)] W fun e w' => e = .returned (.bool (partialInsertionSort ltB dk x y).2) ∧ Holds encB w' blk off (partialInsertionSort ltB dk x y).1 ∧ OnlyAt blk W.heap.size W w'
  peq : ∀ (W : World) (dk : Array UInt8) (x y p : Nat), Holds encB W blk off dk → dk.size = n → x ≤ p → p < y → y ≤ n → Calls Tryz.prog 172 #[.slice (some ⟨blk, off, none⟩) n cap, .int .i64 (x : Int), .int .i64 (y : Int), .int .i64 (p : Int)] W fun e w' => e = .returned (.int .i64 ((partitionEqual ltB dk x y p).1 : Int)) ∧ Holds encB w' blk off (partitionEqual ltB dk x y p).2 ∧ OnlyAt blk W.heap.size W w'
  prt : ∀ (W : World) (dk : Array UInt8) (x y p : Nat), Holds encB W blk off dk → dk.size = n → x ≤ p → p < y → y ≤ n → Calls Tryz.prog 173 #[.slice (some ⟨blk, off, none⟩) n cap, .int .i64 (x : Int), .int .i64 (y : Int), .int .i64 (p : Int)] W fun e w' => e = .returned (.tuple #[.int .i64 ((partition ltB dk x y p).1 : Int), .bool (partition ltB dk x y p).2.1]) ∧ Holds encB w' blk off (partition ltB dk x y p).2.2 ∧ OnlyAt blk W.heap.size W w'
theorem calleesN {n : Nat} (blk off cap : Nat) (hsz : n ≤ 1000000) : CalleesN n blk off cap where
  ins := fun W dk x y h1 h2 h3 h4 => by have := insertion_any blk off cap x y dk W h1 h3 (by omega) (by omega); rwa [h2] at this
  heap := fun W dk x y h1 h2 h3 h4 => by have := heap_any blk off cap x y dk W h1 h3 (by omega) (by omega); rwa [h2] at this
  brk := fun W dk x y h1 h2 h3 h4 h5 => by have := break_any blk off cap x y dk W h1 h3 h4 (by omega) (by omega); rwa [h2] at this
  piv := fun W dk x y h1 h2 h3 h4 h5 => by have := choose_any blk off cap x y dk W h1 h3 h4 (by omega) (by omega); rwa [h2] at this
  rev := fun W dk x y h1 h2 h3 h4 => by have := reverse_any blk off cap x y dk W h1 h3 (by omega) (by omega); rwa [h2] at this
  pin := fun W dk x y h1 h2 h3 h4 => by have := partial_any blk off cap x y dk W h1 h3 (by omega) (by omega); rwa [h2] at this
  peq := fun W dk x y p h1 h2 h3 h4 h5 => by have := partEq_any blk off cap x y p dk W h1 h3 h4 (by omega) (by omega); rwa [h2] at this
  prt := fun W dk x y p h1 h2 h3 h4 h5 => by have := part_any blk off cap x y p dk W h1 h3 h4 (by omega) (by omega); rwa [h2] at this

/-- slices.pdqsortOrdered, of fewer than m bytes. -/
def PdqN (m n blk off cap : Nat) : Prop := ∀ (W : World) (dk : Array UInt8) (x y l : Nat), y - x < m → Holds encB W blk off dk → dk.size = n → blk < W.heap.size → x ≤ y → y ≤ n → l ≤ 1000000 → Go.Sort.Below ltB x y dk →
  Calls Tryz.prog 154 #[.slice (some ⟨blk, off, none⟩) n cap, .int .i64 (x : Int), .int .i64 (y : Int), .int .i64 (l : Int)] W fun e w' => e = .returned (.tuple #[]) ∧ Holds encB w' blk off (pdq ltB dk x y l true true) ∧ OnlyAt blk W.heap.size W w'
end Go.Proofs.YtnpgmekgmelamaaGreat

namespace Go.Proofs.YtnpgmekgmelamaaGreat
open Go.RowKit Go.Shelf Go.Sort

set_option maxRecDepth 1000000 in
set_option maxHeartbeats 8000000 in
theorem pdq_step (m n blk off cap a b lim : Nat) (d : Array UInt8) (w : World) (hsz : n ≤ 1000000) (ih : PdqN m n blk off cap) (hm0 : b - a < m + 1) (hH : Holds encB w blk off d) (hn : d.size = n) (hlt : blk < w.heap.size) (hab0 : a ≤ b) (hb0 : b ≤ n) (hlim : lim ≤ 1000000) (hBel : Go.Sort.Below ltB a b d) :
    Calls Tryz.prog 154 #[.slice (some ⟨blk, off, none⟩) n cap, .int .i64 (a : Int), .int .i64 (b : Int), .int .i64 (lim : Int)] w fun e w' => e = .returned (.tuple #[]) ∧ Holds encB w' blk off (pdq ltB d a b lim true true) ∧ OnlyAt blk w.heap.size w w' := by
  have CN := Lib.hid (calleesN blk off cap hsz)
  have IH := Lib.hid ih
  have HH := Lib.hid hH
  have HN := Lib.hid hn
  have HBel := Lib.hid hBel
  have HLT := Lib.hid hlt
  obtain ⟨T, hT⟩ : ∃ T, pdq ltB d a b lim true true = T := ⟨_, rfl⟩
  have HT0 := Lib.hid hT
  rw [hT]
  clear ih hH hn hBel hlt hT
  go_enter Tryz.func154, Tryz.ntmps154
  go_wp2
  go_loopg [1, 2, 3, 8, 9] m (fun gk s1 s2 s3 s8 s9 wr => ∃ (x y l : Nat) (wb wp : Bool) (dk : Array UInt8), s1 = .int .i64 x ∧ s2 = .int .i64 y ∧ s3 = .int .i64 l ∧ s8 = .bool wb ∧ s9 = .bool wp ∧ x ≤ y ∧ y ≤ n ∧ y - x ≤ gk ∧ y - x ≤ m ∧ l ≤ 1000000 ∧ Hid (dk.size = n) ∧ Hid (Go.Sort.Below ltB x y dk) ∧ Hid (Holds encB wr blk off dk) ∧ Hid (OnlyAt blk w.heap.size w wr) ∧ Hid (pdq ltB dk x y l wb wp = T))
  case atStart => exact ⟨a, b, lim, true, true, d, rfl, rfl, rfl, rfl, rfl, hab0, hb0, by omega, by omega, hlim, HN, HBel, HH, Lib.hid (OnlyAt.refl _ _ _), HT0⟩
  case round =>
    clear HN HBel HH HT0 hab0 hb0 hm0 hlim
    obtain ⟨x, y, l, wb, wp, dk, rfl, rfl, rfl, rfl, rfl, hxy, hyn, hgk, hm, hl, HS, HL, HK, HO, HT⟩ := hrel
    have hbw : blk < wr.heap.size := Nat.lt_of_lt_of_le HLT.out HO.out.size
    obtain ⟨len, hlen⟩ : ∃ len, y - x = len := ⟨_, rfl⟩
    have e1 : (y : Int) - (x : Int) = (len : Int) := by omega
    have e2 : IntKind.i64.wrap (len : Int) = (len : Int) := by rw [IntKind.wrap_i64]; omega
    by_cases h12 : len ≤ 12
    · have z12 : (len : Int) ≤ 12 := by omega
      have C1 := Lib.hid (CN.out.ins wr dk x y HK.out HS.out hxy hyn)
      have HE : Hid (insertionSort ltB dk x y = T) := Lib.hid (by rw [← HT.out, Go.Sort.pdq_small (by omega)])
      clear hlen
      go_wp2_with fail
      refine C1.out.mono ?_
      rintro e w2 ⟨rfl, h1, h2⟩
      go_wp2
      refine bodyPost_ret (results_none rfl _ _ _) rfl ?_
      exact ⟨rfl, HE.out ▸ h1, HO.out.trans (h2.mono HO.out.size)⟩
    · have z12 : ¬ (len : Int) ≤ 12 := by omega
      by_cases hl0 : l = 0
      · have C1 := Lib.hid (CN.out.heap wr dk x y HK.out HS.out (by omega) hyn)
        have HE : Hid (heapSort ltB dk x y = T) := Lib.hid (by rw [← HT.out, Go.Sort.pdq_heap (by omega) hl0])
        subst hl0
        clear hlen
        go_wp2_with fail
        refine C1.out.mono ?_
        rintro e w2 ⟨rfl, h1, h2⟩
        go_wp2
        refine bodyPost_ret (results_none rfl _ _ _) rfl ?_
        exact ⟨rfl, HE.out ▸ h1, HO.out.trans (h2.mono HO.out.size)⟩
      · obtain ⟨r, hr⟩ := rd_at (n := n) (dk := dk) (a := x) (b := y) (lim := l) (wb := wb) (wp := wp) (T := T) (by omega) hl0 hyn HS.out HL.out HT.out
        have R := Lib.hid hr
        have hlle := hr.lle
        have hpv1 := hr.pv.1
        have hpv2 := hr.pv.2
        have hc1 := hr.cr.1
        have hc2 := hr.cr.2
        clear hr HL HT
        have zl : ¬ (l : Int) = 0 := by omega
        have zlb : ((l : Int) == 0) = false := by simpa using hl0
        have hlen12 : x + 12 < y := by omega
        clear hlen
        go_upto_if 35 with fail
        go_cut [3] from 19 to 133 (fun s3 wx => s3 = .int .i64 (r.lim : Int) ∧ Hid (Holds encB wx blk off r.d1) ∧ Hid (OnlyAt blk w.heap.size w wx))
        case first =>
          cases wb with
          | true =>
            obtain ⟨q1, q2⟩ := R.out.nob rfl
            have HK1 : Hid (Holds encB wr blk off r.d1) := Lib.hid (by rw [q1]; exact HK.out)
            have Q2 := Lib.hid q2
            clear q1 q2
            go_wp2
            go_meet
            exact ⟨by rw [Q2.out], HK1, HO⟩
          | false =>
            obtain ⟨q1, q2⟩ := R.out.brk rfl
            obtain ⟨l1, hl1⟩ : ∃ l1, l - 1 = l1 := ⟨_, rfl⟩
            have f1 : (l : Int) - 1 = (l1 : Int) := by omega
            have f2 : IntKind.i64.wrap (l1 : Int) = (l1 : Int) := by rw [IntKind.wrap_i64]; omega
            have Q2 : Hid (r.lim = l1) := Lib.hid (by omega)
            have C1 := Lib.hid (CN.out.brk wr dk x y HK.out HS.out hbw (by omega) hyn)
            rw [← q1] at C1
            clear q1 q2 hl1
            go_wp2_with fail
            refine C1.out.mono ?_
            rintro e w2 ⟨rfl, h1, h2⟩
            have HK1 := Lib.hid h1
            have HO1 : Hid (OnlyAt blk w.heap.size w w2) := Lib.hid (HO.out.trans (h2.mono HO.out.size))
            clear h1 h2
            go_wp2
            go_meet
            exact ⟨by rw [Q2.out], HK1, HO1⟩
        case rest =>
          clear HK HO HS hbw zl zlb
          obtain ⟨rfl, HK, HO⟩ := hcut
          have hbw : blk < wc.heap.size := Nat.lt_of_lt_of_le HLT.out HO.out.size
          obtain ⟨cp, hcp⟩ : ∃ cp, r.c.1 = cp := ⟨_, rfl⟩
          obtain ⟨ch, hch⟩ : ∃ ch, r.c.2 = ch := ⟨_, rfl⟩
          have C1 := Lib.hid (CN.out.piv wc r.d1 x y HK.out R.out.s1 hbw hlen12 hyn)
          rw [R.out.c, hcp, hch] at C1
          rw [hcp] at hc1 hc2
          have HCP := Lib.hid hcp
          have HCH := Lib.hid hch
          obtain ⟨z, hz⟩ : ∃ z, hintCode ch = z := ⟨_, rfl⟩
          rw [hz] at C1
          have HZ := Lib.hid hz
          clear hcp hch hz
          obtain ⟨rl, hrl⟩ : ∃ rl, r.lim = rl := ⟨_, rfl⟩
          have HRL := Lib.hid hrl
          rw [hrl] at hlle
          rw [hrl]
          clear hrl
          go_wp2_with fail
          refine C1.out.mono ?_
          rintro e w2 ⟨rfl, hb2⟩
          have HK2 : Hid (Holds encB w2 blk off r.d1) := Lib.hid (holds_below HK.out hbw hb2)
          have HO2 : Hid (OnlyAt blk w.heap.size w w2) := Lib.hid (HO.out.trans ((below_only hb2).mono HO.out.size))
          clear HK HO hb2 C1
          have hS1 := Lib.hid R.out.s1
          go_upto_if 50 with fail
          go_cut [11, 12] from 19 to 133 (fun s11 s12 wx => s11 = .int .i64 (r.pivot : Int) ∧ s12 = .int .i64 (hintCode r.hint) ∧ Hid (Holds encB wx blk off r.d2) ∧ Hid (OnlyAt blk w.heap.size w wx))
          case first =>
            by_cases hdc : ch = .decreasing
            · obtain ⟨q1, q2, q3⟩ := R.out.dec (HCH.out.trans hdc)
              have hz2 : z = 2 := by rw [← HZ.out, hdc]; rfl
              subst hz2
              have hbw2 : blk < w2.heap.size := Nat.lt_of_lt_of_le HLT.out HO2.out.size
              have C2 := Lib.hid (CN.out.rev w2 r.d1 x y HK2.out hS1.out (by omega) hyn)
              rw [q1] at C2
              rw [HCP.out] at q2
              obtain ⟨y1, hy1⟩ : ∃ y1, y - 1 = y1 := ⟨_, rfl⟩
              obtain ⟨c1, hcc1⟩ : ∃ c1, cp - x = c1 := ⟨_, rfl⟩
              obtain ⟨pv, hpv⟩ : ∃ pv, y1 - c1 = pv := ⟨_, rfl⟩
              have g1 : (y : Int) - 1 = (y1 : Int) := by omega
              have g2 : IntKind.i64.wrap (y1 : Int) = (y1 : Int) := by rw [IntKind.wrap_i64]; omega
              have g3 : (cp : Int) - (x : Int) = (c1 : Int) := by omega
              have g4 : IntKind.i64.wrap (c1 : Int) = (c1 : Int) := by rw [IntKind.wrap_i64]; omega
              have g5 : (y1 : Int) - (c1 : Int) = (pv : Int) := by omega
              have g6 : IntKind.i64.wrap (pv : Int) = (pv : Int) := by rw [IntKind.wrap_i64]; omega
              have Q2 : Hid (r.pivot = pv) := Lib.hid (by omega)
              have Q3 : Hid (hintCode r.hint = 1) := Lib.hid (by rw [q3]; rfl)
              clear q1 q2 q3 hdc hy1 hcc1 hpv
              go_wp2_with fail
              refine C2.out.mono ?_
              rintro e w3 ⟨rfl, h1, h2⟩
              have HK3 := Lib.hid h1
              have HO3 : Hid (OnlyAt blk w.heap.size w w3) := Lib.hid (HO2.out.trans (h2.mono HO2.out.size))
              clear h1 h2
              go_wp2
              go_meet
              exact ⟨by rw [Q2.out], by rw [Q3.out], HK3, HO3⟩
            · obtain ⟨q1, q2, q3⟩ := R.out.ndc (fun e => hdc (HCH.out.symm.trans e))
              have hz2 : ¬ z = 2 := fun e => hdc (code_two (HZ.out.trans e))
              have hz2b : (z == 2) = false := by simpa using hz2
              have Q2 : Hid (r.pivot = cp) := Lib.hid (q2.trans HCP.out)
              have Q3 : Hid (hintCode r.hint = z) := Lib.hid (by rw [q3, HCH.out, HZ.out])
              have HK3 : Hid (Holds encB w2 blk off r.d2) := Lib.hid (by rw [q1]; exact HK2.out)
              clear q1 q2 q3 hdc
              go_wp2
              go_meet
              exact ⟨by rw [Q2.out], by rw [Q3.out], HK3, HO2⟩
          case rest =>
            clear HK2 HO2 hbw hS1 HZ HCH HCP hc1 hc2
            obtain ⟨rfl, rfl, HK, HO⟩ := hcut
            obtain ⟨z2, hz2⟩ : ∃ z2, hintCode r.hint = z2 := ⟨_, rfl⟩
            have HZ2 : Hid (decide (r.hint = .increasing) = (z2 == 1)) := Lib.hid (by rw [← hz2]; exact code_one)
            obtain ⟨pv, hpv⟩ : ∃ pv, r.pivot = pv := ⟨_, rfl⟩
            have HPV := Lib.hid hpv
            rw [hpv] at hpv1 hpv2
            rw [hz2, hpv]
            clear hz2 hpv
            go_upto_region 15 with fail
            go_cut [68] from 19 to 133 (fun s68 wx => s68 = .bool (wb && wp && (z2 == 1)) ∧ Hid (Holds encB wx blk off r.d2) ∧ Hid (OnlyAt blk w.heap.size w wx))
            case first =>
              cases wb with
              | false =>
                go_wp2
                go_meet
                exact ⟨rfl, HK, HO⟩
              | true =>
                cases wp with
                | false =>
                  go_wp2
                  go_meet
                  exact ⟨rfl, HK, HO⟩
                | true =>
                  obtain ⟨bz, hbz⟩ : ∃ bz, (z2 == 1) = bz := ⟨_, rfl⟩
                  go_wp2
                  go_meet
                  exact ⟨by simp [hbz], HK, HO⟩
            case rest =>
              clear HK HO
              obtain ⟨rfl, HK, HO⟩ := hcut
              obtain ⟨bb, hbb⟩ : ∃ bb, (wb && wp && (z2 == 1)) = bb := ⟨_, rfl⟩
              have HBB : Hid ((wb && wp && decide (r.hint = .increasing)) = bb) := Lib.hid (by rw [HZ2.out]; exact hbb)
              rw [hbb]
              clear hbb HZ2
              go_upto_if 68 with fail
              go_cut [] from 19 to 133 (fun wx => r.pi.2 = false ∧ Hid (Holds encB wx blk off r.pi.1) ∧ Hid (OnlyAt blk w.heap.size w wx))
              case first =>
                cases bb with
                | false =>
                  have q := R.out.no HBB.out
                  have q2 : r.pi.2 = false := by rw [q]
                  have HK3 : Hid (Holds encB wc blk off r.pi.1) := Lib.hid (by rw [q]; exact HK.out)
                  have Q2 := Lib.hid q2
                  clear q q2
                  go_wp2
                  go_meet
                  exact ⟨Q2.out, HK3, HO⟩
                | true =>
                  have q := R.out.yes HBB.out
                  have C2 := Lib.hid (CN.out.pin wc r.d2 x y HK.out R.out.s2 (by omega) hyn)
                  rw [q] at C2
                  clear q
                  obtain ⟨pb, hpb⟩ : ∃ pb, r.pi.2 = pb := ⟨_, rfl⟩
                  have HPB := Lib.hid hpb
                  rw [hpb] at C2
                  clear hpb
                  go_wp2_with fail
                  refine C2.out.mono ?_
                  rintro e w3 ⟨rfl, h1, h2⟩
                  have HK3 := Lib.hid h1
                  have HO3 : Hid (OnlyAt blk w.heap.size w w3) := Lib.hid (HO.out.trans (h2.mono HO.out.size))
                  clear h1 h2
                  cases pb with
                  | true =>
                    go_wp2
                    refine bodyPost_ret (results_none rfl _ _ _) rfl ?_
                    exact ⟨rfl, (R.out.done HPB.out) ▸ HK3.out, HO3.out⟩
                  | false =>
                    go_wp2
                    go_meet
                    exact ⟨HPB.out, HK3, HO3⟩
              case rest =>
                clear HK HO HBB
                obtain ⟨hpf, HK, HO⟩ := hcut
                have HPF := Lib.hid hpf
                clear hpf
                obtain ⟨q, hq⟩ : ∃ q, (decide (x > 0) && !ltB r.pi.1[x - 1]! r.pi.1[pv]!) = q := ⟨_, rfl⟩
                have HQ := Lib.hid hq
                clear hq
                have hS3 := Lib.hid R.out.s3
                go_upto_region 17 with fail
                go_cut [87] from 19 to 133 (fun s87 wx => s87 = .bool q ∧ Hid (Holds encB wx blk off r.pi.1) ∧ Hid (OnlyAt blk w.heap.size w wx))
                case first =>
                  by_cases hx0 : 0 < x
                  · have zx : (0 : Int) < (x : Int) := by omega
                    have hd : decide ((0 : Int) < (x : Int)) = true := decide_eq_true zx
                    obtain ⟨x1, hx1⟩ : ∃ x1, x - 1 = x1 := ⟨_, rfl⟩
                    have f1 : (x : Int) - 1 = (x1 : Int) := by omega
                    have f2 : IntKind.i64.wrap (x1 : Int) = (x1 : Int) := by rw [IntKind.wrap_i64]; omega
                    have ca := (HK.out x1 (by have := hS3.out; omega)).1
                    have cp := (HK.out pv (by have := hS3.out; omega)).1
                    obtain ⟨u, hu⟩ : ∃ u, r.pi.1[x1]! = u := ⟨_, rfl⟩
                    obtain ⟨v, hv⟩ : ∃ v, r.pi.1[pv]! = v := ⟨_, rfl⟩
                    have hqq := HQ.out
                    rw [hx1, hu, hv, decide_eq_true (show x > 0 from hx0), Bool.true_and] at hqq
                    rw [hu] at ca
                    rw [hv] at cp
                    unfold encB at ca cp
                    have i0 : (0 : Int) ≤ (x1 : Int) := by omega
                    have i1 : (x1 : Int) < (n : Int) := by omega
                    have j0 : (0 : Int) ≤ (pv : Int) := by omega
                    have j1 : (pv : Int) < (n : Int) := by omega
                    cases hlv : ltB u v with
                    | true =>
                      have HV : Hid (q = false) := Lib.hid (by rw [← hqq, hlv]; rfl)
                      have C2 : Hid (∀ w, Calls Tryz.prog 171 #[.int .u8 (u.toNat : Int), .int .u8 (v.toNat : Int)] w fun e w' => e = .returned (.bool true) ∧ w' = w) := Lib.hid (fun w => by have := less_any u v w; rwa [hlv] at this)
                      clear hlv hu hv hqq hx1
                      go_quiet (first | (go_at_call 171; refine Calls.quiet_of_same (C2.out _)))
                      go_wp2
                      go_meet
                      exact ⟨by rw [HV.out], Lib.hid (holds_drewN HK.out _), Lib.hid (only_drewN HO.out _)⟩
                    | false =>
                      have HV : Hid (q = true) := Lib.hid (by rw [← hqq, hlv]; rfl)
                      have C2 : Hid (∀ w, Calls Tryz.prog 171 #[.int .u8 (u.toNat : Int), .int .u8 (v.toNat : Int)] w fun e w' => e = .returned (.bool false) ∧ w' = w) := Lib.hid (fun w => by have := less_any u v w; rwa [hlv] at this)
                      clear hlv hu hv hqq hx1
                      go_quiet (first | (go_at_call 171; refine Calls.quiet_of_same (C2.out _)))
                      go_wp2
                      go_meet
                      exact ⟨by rw [HV.out], Lib.hid (holds_drewN HK.out _), Lib.hid (only_drewN HO.out _)⟩
                  · have zx : ¬ (0 : Int) < (x : Int) := by omega
                    have hd : decide ((0 : Int) < (x : Int)) = false := decide_eq_false zx
                    have HV : Hid (q = false) := Lib.hid (by rw [← HQ.out, decide_eq_false (show ¬ x > 0 from hx0), Bool.false_and])
                    go_quiet (fail)
                    go_wp2
                    go_meet
                    exact ⟨by rw [HV.out], Lib.hid (holds_drewN HK.out _), Lib.hid (only_drewN HO.out _)⟩
                case rest =>
                  clear HK HO
                  obtain ⟨rfl, HK, HO⟩ := hcut
                  have hbw : blk < wc.heap.size := Nat.lt_of_lt_of_le HLT.out HO.out.size
                  obtain ⟨g', rfl⟩ : ∃ g', gk = g' + 1 := ⟨gk - 1, by omega⟩
                  cases q with
                  | true =>
                    obtain ⟨md, d4, hE⟩ : ∃ md d4, partitionEqual ltB r.pi.1 x y pv = (md, d4) := ⟨_, _, rfl⟩
                    have hE0 := R.out.eq HPF.out (by rw [HPV.out]; exact HQ.out)
                    rw [HPV.out, hE, HRL.out] at hE0
                    obtain ⟨g1, g2, g3, g4, g5⟩ := hE0
                    have C2 := Lib.hid (CN.out.peq wc r.pi.1 x y pv HK.out hS3.out hpv1 hpv2 hyn)
                    rw [hE] at C2
                    dsimp only at C2 g1 g2 g3 g4 g5
                    have G3 := Lib.hid g3
                    have G4 := Lib.hid g4
                    have G5 := Lib.hid g5
                    clear hE g3 g4 g5
                    go_wp2_with fail
                    refine C2.out.mono ?_
                    rintro e w3 ⟨rfl, h1, h2⟩
                    have HK3 := Lib.hid h1
                    have HO3 : Hid (OnlyAt blk w.heap.size w w3) := Lib.hid (HO.out.trans (h2.mono HO.out.size))
                    clear h1 h2
                    go_wp2
                    go_roundg g'
                    case measure => omega
                    case rel => exact ⟨md, y, rl, wb, wp, d4, rfl, rfl, rfl, rfl, rfl, g2, hyn, by omega, by omega, by omega, G3, G4, HK3, HO3, G5⟩
                  | false =>
                    obtain ⟨md, ap, d4, hE⟩ : ∃ md ap d4, partition ltB r.pi.1 x y pv = (md, ap, d4) := ⟨_, _, _, rfl⟩
                    obtain ⟨g1, g2, g3, g4, g5, g6, g7⟩ := R.out.prt HPF.out (by rw [HPV.out]; exact HQ.out) md ap d4 (by rw [HPV.out]; exact hE)
                    rw [HRL.out] at g6 g7
                    have C2 := Lib.hid (CN.out.prt wc r.pi.1 x y pv HK.out hS3.out hpv1 hpv2 hyn)
                    rw [hE] at C2
                    dsimp only at C2
                    have G3 := Lib.hid g3
                    have G4 := Lib.hid g4
                    have G5 := Lib.hid g5
                    have G6 := Lib.hid g6
                    have G7 := Lib.hid g7
                    clear hE g3 g4 g5 g6 g7
                    obtain ⟨ll, hll⟩ : ∃ ll, md - x = ll := ⟨_, rfl⟩
                    obtain ⟨rr, hrr⟩ : ∃ rr, y - md = rr := ⟨_, rfl⟩
                    obtain ⟨th, hth⟩ : ∃ th, len / 8 = th := ⟨_, rfl⟩
                    obtain ⟨m1, hm1⟩ : ∃ m1, md + 1 = m1 := ⟨_, rfl⟩
                    have f1 : (md : Int) - (x : Int) = (ll : Int) := by omega
                    have f2 : IntKind.i64.wrap (ll : Int) = (ll : Int) := by rw [IntKind.wrap_i64]; omega
                    have f3 : (y : Int) - (md : Int) = (rr : Int) := by omega
                    have f4 : IntKind.i64.wrap (rr : Int) = (rr : Int) := by rw [IntKind.wrap_i64]; omega
                    have f5 : (len : Int).tdiv 8 = (th : Int) := by
                      have : (len : Int).tdiv 8 = (len : Int) / 8 := Int.tdiv_eq_ediv_of_nonneg (by omega)
                      omega
                    have f6 : IntKind.i64.wrap (th : Int) = (th : Int) := by rw [IntKind.wrap_i64]; omega
                    have f7 : (md : Int) + 1 = (m1 : Int) := by omega
                    have f8 : IntKind.i64.wrap (m1 : Int) = (m1 : Int) := by rw [IntKind.wrap_i64]; omega
                    have HLL := Lib.hid hll
                    have HRR := Lib.hid hrr
                    have HTH := Lib.hid hth
                    have HM1 := Lib.hid hm1
                    have HLEN : Hid (y - x = len) := Lib.hid (by omega)
                    have k1 : md - x < m := by omega
                    have k2 : y - m1 < m := by omega
                    have k3 : m1 ≤ y := by omega
                    have k4 : y - m1 ≤ g' := by omega
                    have k5 : md - x ≤ g' := by omega
                    by_cases hlr : ll < rr
                    · have zlr : (ll : Int) < (rr : Int) := by omega
                      have hd : decide ((ll : Int) < (rr : Int)) = true := decide_eq_true zlr
                      obtain ⟨g8, g9, g10⟩ := G6.out (by omega)
                      rw [show decide (md - x ≥ (y - x) / 8) = decide (th ≤ ll) from decide_eq_decide.mpr (by omega), hm1] at g10
                      rw [hm1] at g9
                      clear G6 G7 hll hrr hth hm1
                      go_wp2_with fail
                      refine C2.out.mono ?_
                      rintro e w3 ⟨rfl, h1, h2⟩
                      have hbw3 : blk < w3.heap.size := Nat.lt_of_lt_of_le hbw h2.size
                      have C3 := Lib.hid (IH.out w3 d4 x md rl k1 h1 G3.out hbw3 g1 (by omega) (by omega) G4.out)
                      have HO3 : Hid (OnlyAt blk w.heap.size w w3) := Lib.hid (HO.out.trans (h2.mono HO.out.size))
                      obtain ⟨d5, hd5⟩ : ∃ d5, pdq ltB d4 x md rl true true = d5 := ⟨_, rfl⟩
                      rw [hd5] at g8 g9 g10 C3
                      have G8 := Lib.hid g8
                      have G9 := Lib.hid g9
                      have G10 := Lib.hid g10
                      clear h1 h2 hd5 g8 g9 g10 C2
                      go_wp2_with fail
                      refine C3.out.mono ?_
                      rintro e w4 ⟨rfl, h1, h2⟩
                      have HK4 := Lib.hid h1
                      have HO4 : Hid (OnlyAt blk w.heap.size w w4) := Lib.hid (HO3.out.trans (h2.mono HO3.out.size))
                      clear h1 h2 C3
                      go_wp2
                      go_roundg g'
                      case measure => omega
                      case rel => exact ⟨m1, y, rl, decide (th ≤ ll), ap, d5, rfl, rfl, rfl, rfl, rfl, k3, hyn, k4, by omega, by omega, G8, G9, HK4, HO4, G10⟩
                    · have zlr : ¬ (ll : Int) < (rr : Int) := by omega
                      have hd : decide ((ll : Int) < (rr : Int)) = false := decide_eq_false zlr
                      obtain ⟨g8, g9, g10⟩ := G7.out (by omega)
                      rw [show decide (y - md ≥ (y - x) / 8) = decide (th ≤ rr) from decide_eq_decide.mpr (by omega), hm1] at g10
                      rw [hm1] at g8 g9
                      have g5 := G5.out
                      rw [hm1] at g5
                      have G5' := Lib.hid g5
                      clear G6 G7 hll hrr hth hm1 g5
                      go_wp2_with fail
                      refine C2.out.mono ?_
                      rintro e w3 ⟨rfl, h1, h2⟩
                      have hbw3 : blk < w3.heap.size := Nat.lt_of_lt_of_le hbw h2.size
                      have C3 := Lib.hid (IH.out w3 d4 m1 y rl k2 h1 G3.out hbw3 k3 hyn (by omega) G5'.out)
                      have HO3 : Hid (OnlyAt blk w.heap.size w w3) := Lib.hid (HO.out.trans (h2.mono HO.out.size))
                      obtain ⟨d5, hd5⟩ : ∃ d5, pdq ltB d4 m1 y rl true true = d5 := ⟨_, rfl⟩
                      rw [hd5] at g8 g9 g10 C3
                      have G8 := Lib.hid g8
                      have G9 := Lib.hid g9
                      have G10 := Lib.hid g10
                      clear h1 h2 hd5 g8 g9 g10 C2
                      go_wp2_with fail
                      refine C3.out.mono ?_
                      rintro e w4 ⟨rfl, h1, h2⟩
                      have HK4 := Lib.hid h1
                      have HO4 : Hid (OnlyAt blk w.heap.size w w4) := Lib.hid (HO3.out.trans (h2.mono HO3.out.size))
                      clear h1 h2 C3
                      go_wp2
                      go_roundg g'
                      case measure => omega
                      case rel => exact ⟨x, md, rl, decide (th ≤ rr), ap, d5, rfl, rfl, rfl, rfl, rfl, g1, by omega, k5, by omega, by omega, G8, G9, HK4, HO4, G10⟩

theorem pdq_any (n blk off cap : Nat) (hsz : n ≤ 1000000) : ∀ m, PdqN m n blk off cap := by
  intro m
  induction m with
  | zero => exact fun _ _ x y l h => by omega
  | succ m ih => exact fun W dk x y l h1 h2 h3 h4 h5 h6 h7 h8 => pdq_step m n blk off cap x y l dk W hsz ih h1 h2 h3 h4 h5 h6 h7 h8
end Go.Proofs.YtnpgmekgmelamaaGreat

namespace Go.Proofs.YtnpgmekgmelamaaGreat
open Go.RowKit Go.Shelf Go.Sort

theorem lenAux_le : ∀ (f x : Nat), Lib.bitLenAux f x ≤ f
  | 0, _ => Nat.le_refl _
  | f + 1, x => by
      unfold Lib.bitLenAux
      split
      · omega
      · have := lenAux_le f (x / 2)
        omega

theorem sort_any (n blk cap : Nat) (d : Array UInt8) (w : World) (hn : d.size = n) (hH : Holds encB w blk 0 d) (h12 : 12 < n) (hsz : n ≤ 1000000) :
    Calls Tryz.prog 130 #[.slice (some ⟨blk, 0, none⟩) n cap] w fun e w' => e = .returned (.tuple #[]) ∧ ∃ d', Holds encB w' blk 0 d' ∧ SortsU d d' ∧ OnlyAt blk w.heap.size w w' := by
  have hlt : blk < w.heap.size := World.block_lt_of_cell? w _ ((hH 0 (by omega)).1)
  obtain ⟨bl, hbl⟩ : ∃ bl, Lib.bitLen (n : Int).toNat = bl := ⟨_, rfl⟩
  have hbl64 : bl ≤ 64 := by rw [← hbl]; exact lenAux_le 64 _
  have C := Lib.hid (pdq_any n blk 0 cap hsz (n + 1) w d 0 n bl (by omega) hH hn hlt (Nat.zero_le _) (Nat.le_refl _) (by omega) (.inl rfl))
  have C2 := Lib.hid (Tryz.bits_Len (n : Int) w (by omega) (by omega))
  rw [hbl] at C2
  have HI : Hid (SortsU d (pdq ltB d 0 n bl true true)) := Lib.hid (by
    have := pdq_stm swo_ltB d 0 n bl true true (Nat.zero_le _) (by omega) (.inl rfl)
    unfold SortsU
    rw [hn]
    exact this)
  obtain ⟨D, hD⟩ : ∃ D, pdq ltB d 0 n bl true true = D := ⟨_, rfl⟩
  rw [hD] at C HI
  have hw : IntKind.u64.wrap (n : Int) = (n : Int) := by
    unfold IntKind.wrap
    simp [IntKind.bits, IntKind.signed]
    omega
  clear hH hn hD hbl
  go_enter Tryz.func130, Tryz.ntmps130
  go_wp2_with (first
    | (go_at_call 125; refine C2.out.mono ?_; rintro e w' ⟨rfl, rfl⟩)
    | (go_at_call 154; refine C.out.mono ?_; rintro e w' ⟨rfl, h1, h2⟩))
  go_end0
  exact ⟨rfl, D, h1, HI.out, h2⟩

theorem sortsN_any {n : Nat} (h : n ≤ 1000000) : SortsN n := by
  by_cases h12 : n ≤ 12
  · exact sortsN_small h12
  · exact fun blk cap d w hd hH => sort_any n blk cap d w hd hH (by omega) h
end Go.Proofs.YtnpgmekgmelamaaGreat
