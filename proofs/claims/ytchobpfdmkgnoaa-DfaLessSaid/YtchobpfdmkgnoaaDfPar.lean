/-
  What is proved: what slices.Sort's partialInsertionSort does to bytes in memory. Nothing else that lay in memory is changed.
-/
import Derived.Test.YtchobpfdmkgnoaaDfBrk
namespace Go.Proofs.Ytchobpfdmkgnoaa
open Go.RowKit Go.Shelf Go.Sort

theorem scanS_go (d : Array UInt8) (b i : Nat) (h : i < b) (hl : ltB d[i]! d[i - 1]! = false) : scanSorted ltB d b i = scanSorted ltB d b (i + 1) := by
  rw [scanSorted.eq_def ltB d b i, if_pos (by simp [h, hl])]
theorem scanS_stop (d : Array UInt8) (b i : Nat) (h : ¬ i < b ∨ ltB d[i]! d[i - 1]! = true) : scanSorted ltB d b i = i := by
  rw [scanSorted.eq_def, if_neg (by
    rcases h with h | h
    · simp [h]
    · simp [h])]
theorem scanS_range (d : Array UInt8) (b : Nat) : ∀ (k i : Nat), b - i ≤ k → i ≤ b → i ≤ scanSorted ltB d b i ∧ scanSorted ltB d b i ≤ b
  | 0, i, hk, hi => by
    rw [scanS_stop d b i (.inl (by omega))]
    omega
  | k + 1, i, hk, hi => by
    by_cases h : i < b
    · cases hl : ltB d[i]! d[i - 1]! with
      | false =>
        rw [scanS_go d b i h hl]
        have := scanS_range d b k (i + 1) (by omega) (by omega)
        omega
      | true => rw [scanS_stop d b i (.inr hl)]; omega
    · rw [scanS_stop d b i (.inl h)]; omega
theorem shiftD_stop (d : Array UInt8) (j : Nat) (h : ltB d[j + 1]! d[j]! = false) : shiftDown ltB (j + 1) d = d := by
  rw [shiftDown, h]; rfl
theorem shiftD_go (d : Array UInt8) (j : Nat) (h : ltB d[j + 1]! d[j]! = true) : shiftDown ltB (j + 1) d = shiftDown ltB j (swp d (j + 1) j) := by
  rw [shiftDown, h]; rfl
theorem shiftU_end (d : Array UInt8) (b j : Nat) (h : ¬ j < b) : shiftUp ltB b j d = d := by
  rw [shiftUp.eq_def, if_neg h]
theorem shiftU_stop (d : Array UInt8) (b j : Nat) (hj : j < b) (h : ltB d[j]! d[j - 1]! = false) : shiftUp ltB b j d = d := by
  rw [shiftUp.eq_def, if_pos hj, h]; rfl
theorem shiftU_go (d : Array UInt8) (b j : Nat) (hj : j < b) (h : ltB d[j]! d[j - 1]! = true) : shiftUp ltB b j d = shiftUp ltB b (j + 1) (swp d j (j - 1)) := by
  rw [shiftUp.eq_def ltB b j d, if_pos hj, h]; rfl
theorem size_shiftD : ∀ (j : Nat) (d : Array UInt8), (shiftDown ltB j d).size = d.size
  | 0, d => rfl
  | j + 1, d => by
    cases h : ltB d[j + 1]! d[j]! with
    | false => rw [shiftD_stop d j h]
    | true => rw [shiftD_go d j h, size_shiftD, size_swp]
theorem size_shiftU (b : Nat) : ∀ (k j : Nat) (d : Array UInt8), b - j ≤ k → (shiftUp ltB b j d).size = d.size
  | 0, j, d, hk => by rw [shiftU_end d b j (by omega)]
  | k + 1, j, d, hk => by
    by_cases hj : j < b
    · cases h : ltB d[j]! d[j - 1]! with
      | false => rw [shiftU_stop d b j hj h]
      | true => rw [shiftU_go d b j hj h, size_shiftU b k _ _ (by omega), size_swp]
    · rw [shiftU_end d b j hj]

set_option maxRecDepth 100000 in
set_option maxHeartbeats 4000000 in
/-- slices.partialInsertionSortOrdered. -/
theorem partial_any (blk off cap a b : Nat) (d : Array UInt8) (w : World) (hH : Holds encB w blk off d) (hab : a < b) (hb : b ≤ d.size) (hsz : d.size ≤ 1000000) :
    Calls Try.prog 77 #[.slice (some ⟨blk, off, none⟩) d.size cap, .int .i64 (a : Int), .int .i64 (b : Int)] w fun e w' => e = .returned (.bool (partialInsertionSort ltB d a b).2) ∧ Holds encB w' blk off (partialInsertionSort ltB d a b).1 ∧ OnlyAt blk w.heap.size w w' := by
  have C := Lib.hid less_any
  obtain ⟨n, hn⟩ : ∃ n, d.size = n := ⟨_, rfl⟩
  have HK : Hid (Holds encB w blk off d) := hH
  have HS : Hid (d.size = n) := hn
  have HB : Hid (OnlyAt blk w.heap.size w w) := Lib.hid (OnlyAt.refl _ _ _)
  rw [hn] at hb hsz
  rw [hn]
  clear hH hn
  obtain ⟨P, hP⟩ : ∃ P, partialInsertionSort ltB d a b = P := ⟨_, rfl⟩
  have HP : Hid (partialIns ltB a b 5 (a + 1) d = P) := Lib.hid (by rw [← hP]; rfl)
  rw [hP]
  obtain ⟨l, hl⟩ : ∃ l, b - a = l := ⟨_, rfl⟩
  have l1 : (b : Int) - (a : Int) = (l : Int) := by omega
  have l2 : IntKind.i64.wrap (l : Int) = (l : Int) := by rw [IntKind.wrap_i64]; omega
  clear hP
  go_enter Try.func77, Try.ntmps77
  go_wp2_with fail
  go_loopg [7, 8] 5 (fun gk s7 s8 wr => ∃ (i : Nat) (dk : Array UInt8), s7 = .int .i64 i ∧ s8 = .int .i64 ((5 - gk : Nat) : Int) ∧ gk ≤ 5 ∧ a < i ∧ i ≤ b ∧ Hid (dk.size = n) ∧ Hid (Holds encB wr blk off dk) ∧ Hid (OnlyAt blk w.heap.size w wr) ∧ Hid (partialIns ltB a b gk i dk = P))
  case atStart => exact ⟨a + 1, d, by go_num, rfl, Nat.le_refl _, by omega, by omega, HS, HK, HB, HP⟩
  case round =>
    clear HS HK HB HP
    obtain ⟨i0, dk, rfl, rfl, hg5, hai, hib, HS, HK, HB, HP⟩ := hrel
    cases gk with
    | zero =>
      have HE : Hid ((dk, false) = P) := HP
      rw [show ((5 - 0 : Nat) : Int) = 5 from rfl]
      have z5 : ¬ (5 : Int) < 5 := by omega
      go_wp2
      go_ret
      exact ⟨by rw [← HE.out]; rfl, by rw [← HE.out]; exact HK.out, HB.out⟩
    | succ g' =>
      obtain ⟨st, hst⟩ : ∃ st, 5 - (g' + 1) = st := ⟨_, rfl⟩
      rw [hst]
      have st5 : (st : Int) < 5 := by omega
      have st1 : (st : Int) + 1 = ((5 - g' : Nat) : Int) := by omega
      have HP' : Hid ((if scanSorted ltB dk b i0 = b then (dk, true) else if l < 50 then (dk, false) else
        partialIns ltB a b g' (scanSorted ltB dk b i0) (fixUp ltB b (scanSorted ltB dk b i0) (fixDown ltB a (scanSorted ltB dk b i0) (swp dk (scanSorted ltB dk b i0) (scanSorted ltB dk b i0 - 1))))) = P) := Lib.hid (by
        have := HP.out
        rw [partialIns_succ, hl] at this
        exact this)
      clear HP
      go_upto_block 2 with fail
      go_cut [7] from 13 to 132 (fun s wx => s = .int .i64 ((scanSorted ltB dk b i0 : Nat) : Int) ∧ Hid (Holds encB wx blk off dk) ∧ Hid (OnlyAt blk w.heap.size w wx))
      case first =>
        go_wp2_with fail
        go_loopg [7] (b + 1 - i0) (fun gq s wr => ∃ i : Nat, s = .int .i64 i ∧ a < i ∧ i ≤ b ∧ b + 1 - i ≤ gq ∧ Hid (Holds encB wr blk off dk) ∧ Hid (OnlyAt blk w.heap.size w wr) ∧ Hid (scanSorted ltB dk b i = scanSorted ltB dk b i0))
        case atStart => exact ⟨i0, by go_num, hai, hib, Nat.le_refl _, HK, HB, Lib.hid rfl⟩
        case round =>
          clear HK HB
          obtain ⟨i, rfl, hai, hib, hg, HK, HB, HO⟩ := hrel
          by_cases hij : i < b
          · have hijz : (i : Int) < (b : Int) := by omega
            have hd : decide ((i : Int) < (b : Int)) = true := decide_eq_true hijz
            obtain ⟨ip, hip⟩ : ∃ ip, i - 1 = ip := ⟨_, rfl⟩
            have q1 : (i : Int) - 1 = (ip : Int) := by omega
            have q2 : IntKind.i64.wrap (ip : Int) = (ip : Int) := by rw [IntKind.wrap_i64]; omega
            have ci := (HK.out i (by have := HS.out; omega)).1
            have cp := (HK.out ip (by have := HS.out; omega)).1
            obtain ⟨x, hx⟩ : ∃ x, dk[i]! = x := ⟨_, rfl⟩
            obtain ⟨y, hy⟩ : ∃ y, dk[ip]! = y := ⟨_, rfl⟩
            rw [hx] at ci
            rw [hy] at cp
            unfold encB at ci cp
            have i0' : (0 : Int) ≤ (i : Int) := by omega
            have i1' : (i : Int) < (n : Int) := by omega
            have p0' : (0 : Int) ≤ (ip : Int) := by omega
            have p1' : (ip : Int) < (n : Int) := by omega
            have hxl := Lib.hid hx
            have hyl := Lib.hid hy
            have hpl := Lib.hid hip
            clear hx hy hip
            obtain ⟨gp, hgp⟩ : ∃ gp, gk = gp + 1 := ⟨gk - 1, by omega⟩
            subst hgp
            cases hlv : ltB x y with
            | false =>
              have HQ : Hid (scanSorted ltB dk b (i + 1) = scanSorted ltB dk b i0) := Lib.hid (by rw [← HO.out, scanS_go dk b i hij (by rw [hpl.out, hxl.out, hyl.out, hlv])])
              have C2 : Hid (∀ w, Calls Try.prog 78 #[.int .u8 (x.toNat : Int), .int .u8 (y.toNat : Int)] w fun e w' => e = .returned (.bool false) ∧ w' = w) := Lib.hid (fun w => by have := C.out x y w; rwa [hlv] at this)
              clear hlv
              go_wp2_with fail
              go_quiet (first | (go_at_call 78; refine Calls.quiet_of_same (C2.out _)))
              go_wp2
              go_roundg gp
              case measure => omega
              case rel => exact ⟨i + 1, by go_num, by omega, by omega, by omega, Lib.hid (holds_drewN HK.out _), Lib.hid (only_drewN HB.out _), HQ⟩
            | true =>
              have HQ : Hid (i = scanSorted ltB dk b i0) := Lib.hid (by rw [← HO.out, scanS_stop dk b i (.inr (by rw [hpl.out, hxl.out, hyl.out, hlv]))])
              have C2 : Hid (∀ w, Calls Try.prog 78 #[.int .u8 (x.toNat : Int), .int .u8 (y.toNat : Int)] w fun e w' => e = .returned (.bool true) ∧ w' = w) := Lib.hid (fun w => by have := C.out x y w; rwa [hlv] at this)
              clear hlv
              go_wp2_with fail
              go_quiet (first | (go_at_call 78; refine Calls.quiet_of_same (C2.out _)))
              go_wp2
              go_meet
              exact ⟨by rw [← HQ.out], Lib.hid (holds_drewN HK.out _), Lib.hid (only_drewN HB.out _)⟩
          · have hijz : ¬ (i : Int) < (b : Int) := by omega
            have hd : decide ((i : Int) < (b : Int)) = false := decide_eq_false hijz
            have HQ : Hid (i = scanSorted ltB dk b i0) := Lib.hid (by rw [← HO.out, scanS_stop dk b i (.inl hij)])
            go_wp2_with fail
            go_quiet (fail)
            go_wp2
            go_meet
            exact ⟨by rw [← HQ.out], Lib.hid (holds_drewN HK.out _), Lib.hid (only_drewN HB.out _)⟩
      case rest =>
        clear HK HB
        obtain ⟨rfl, HK, HB⟩ := hcut
        have hsr := scanS_range dk b (b - i0) i0 (Nat.le_refl _) hib
        obtain ⟨i, hi⟩ : ∃ i, scanSorted ltB dk b i0 = i := ⟨_, rfl⟩
        rw [hi] at hsr HP'
        rw [hi]
        have hai2 : a < i := by omega
        have hib2 : i ≤ b := hsr.2
        clear hsr hi hai hib
        by_cases hie : i = b
        · subst hie
          have HE : Hid ((dk, true) = P) := Lib.hid (by have := HP'.out; rwa [if_pos rfl] at this)
          clear HP'
          go_wp2
          refine bodyPost_ret (v := .bool true) (by simp [results, Try.results77, go_sem]) rfl ?_
          exact ⟨by rw [← HE.out], by rw [← HE.out]; exact HK.out, HB.out⟩
        · have hiz : ¬ (i : Int) = (b : Int) := by omega
          have hizb : ((i : Int) == (b : Int)) = false := by simpa using hiz
          by_cases h50 : l < 50
          · have h50z : (l : Int) < 50 := by omega
            have HE : Hid ((dk, false) = P) := Lib.hid (by have := HP'.out; rwa [if_neg hie, if_pos h50] at this)
            clear HP'
            go_wp2
            refine bodyPost_ret (v := .bool false) (by simp [results, Try.results77, go_sem]) rfl ?_
            exact ⟨by rw [← HE.out], by rw [← HE.out]; exact HK.out, HB.out⟩
          · have h50z : ¬ (l : Int) < 50 := by omega
            have HE : Hid (partialIns ltB a b g' i (fixUp ltB b i (fixDown ltB a i (swp dk i (i - 1)))) = P) := Lib.hid (by have := HP'.out; rwa [if_neg hie, if_neg h50] at this)
            clear HP'
            obtain ⟨ip, hip⟩ : ∃ ip, i - 1 = ip := ⟨_, rfl⟩
            rw [hip] at HE
            have q1 : (i : Int) - 1 = (ip : Int) := by omega
            have q2 : IntKind.i64.wrap (ip : Int) = (ip : Int) := by rw [IntKind.wrap_i64]; omega
            obtain ⟨ia, hia⟩ : ∃ ia, i - a = ia := ⟨_, rfl⟩
            obtain ⟨bi, hbi⟩ : ∃ bi, b - i = bi := ⟨_, rfl⟩
            have q3 : (i : Int) - (a : Int) = (ia : Int) := by omega
            have q4 : IntKind.i64.wrap (ia : Int) = (ia : Int) := by rw [IntKind.wrap_i64]; omega
            have q5 : (b : Int) - (i : Int) = (bi : Int) := by omega
            have q6 : IntKind.i64.wrap (bi : Int) = (bi : Int) := by rw [IntKind.wrap_i64]; omega
            have ci := (HK.out i (by have := HS.out; omega)).1
            have cj := (HK.out ip (by have := HS.out; omega)).1
            have fi := (HK.out i (by have := HS.out; omega)).2
            have fj := (HK.out ip (by have := HS.out; omega)).2
            obtain ⟨xi, hxi⟩ : ∃ x, dk[i]! = x := ⟨_, rfl⟩
            obtain ⟨xj, hxj⟩ : ∃ x, dk[ip]! = x := ⟨_, rfl⟩
            rw [hxi] at ci
            rw [hxj] at cj
            unfold encB at ci cj
            have cs : (wc.setCell ⟨blk, off + i, none⟩ (.int .u8 (xj.toNat : Int))).cell? ⟨blk, off + ip, none⟩ = some (.int .u8 (xj.toNat : Int)) := by
              by_cases e : i = ip
              · rw [e] at ci ⊢
                exact World.cell?_setCell_same _ _ _ ci
              · rw [World.cell?_setCell_other _ _ _ _ (fun e2 => e (by injection e2 with _ e2; omega))]
                exact cj
            have HW : Hid (Holds encB ((wc.setCell ⟨blk, off + i, none⟩ (.int .u8 (xj.toNat : Int))).setCell ⟨blk, off + ip, none⟩ (.int .u8 (xi.toNat : Int))) blk off (swp dk i ip)) := Lib.hid (by
              have := swap_holds2 HK.out (i := i) (j := ip) (by have := HS.out; omega) (by have := HS.out; omega)
              rw [hxi, hxj] at this
              exact this)
            have HWB : Hid (OnlyAt blk w.heap.size w ((wc.setCell ⟨blk, off + i, none⟩ (.int .u8 (xj.toNat : Int))).setCell ⟨blk, off + ip, none⟩ (.int .u8 (xi.toNat : Int)))) := Lib.hid ((HB.out.set (off + i) _).set (off + ip) _)
            have ii0 : (0 : Int) ≤ (i : Int) := by omega
            have ii1 : (i : Int) < (n : Int) := by omega
            have jj0 : (0 : Int) ≤ (ip : Int) := by omega
            have jj1 : (ip : Int) < (n : Int) := by omega
            clear hxi hxj HK HB
            obtain ⟨d1, hd1⟩ : ∃ d1, swp dk i ip = d1 := ⟨_, rfl⟩
            rw [hd1] at HW HE
            have HS1 : Hid (d1.size = n) := Lib.hid (by rw [← hd1, size_swp]; exact HS.out)
            clear hd1 HS h50
            go_wp2_with fail
            go_region
            all_goals
              have HK1 := HW
              have HB1 := Lib.hid HWB.out.drew
              clear HWB HW
              go_upto_if 61 with fail
              go_cut [9] from 13 to 132 (fun s9 wx => Hid (Holds encB wx blk off (fixDown ltB a i d1)) ∧ Hid (OnlyAt blk w.heap.size w wx))
              case first =>
                obtain ⟨T, hT⟩ : ∃ T, fixDown ltB a i d1 = T := ⟨_, rfl⟩
                have HTT := Lib.hid hT
                by_cases h2 : 2 ≤ ia
                · have h2z : (2 : Int) ≤ (ia : Int) := by omega
                  have HT : Hid (shiftDown ltB ip d1 = T) := Lib.hid (by
                    rw [← hT]
                    unfold fixDown
                    rw [hia, if_pos h2, hip])
                  clear hT HE
                  go_wp2_with fail
                  go_loopg [9] (ip + 1) (fun gq s9 wr => ∃ (j : Nat) (dj : Array UInt8), s9 = .int .i64 j ∧ j ≤ ip ∧ j + 1 ≤ gq ∧ Hid (dj.size = n) ∧ Hid (Holds encB wr blk off dj) ∧ Hid (OnlyAt blk w.heap.size w wr) ∧ Hid (shiftDown ltB j dj = T))
                  case atStart => exact ⟨ip, d1, by go_num, Nat.le_refl _, Nat.le_refl _, HS1, HK1, HB1, HT⟩
                  case round =>
                    clear HS1 HK1 HB1 HT
                    obtain ⟨j, dj, rfl, hjp2, hjg, HS, HK, HB, HO⟩ := hrel
                    by_cases hj1 : 1 ≤ j
                    · have hj1z : (1 : Int) ≤ (j : Int) := by omega
                      obtain ⟨jp, hjp⟩ : ∃ jp, j - 1 = jp := ⟨_, rfl⟩
                      have q1 : (j : Int) - 1 = (jp : Int) := by omega
                      have q2 : IntKind.i64.wrap (jp : Int) = (jp : Int) := by rw [IntKind.wrap_i64]; omega
                      have cj := (HK.out j (by have := HS.out; omega)).1
                      have cp := (HK.out jp (by have := HS.out; omega)).1
                      have fj := (HK.out j (by have := HS.out; omega)).2
                      have fp := (HK.out jp (by have := HS.out; omega)).2
                      obtain ⟨xj, hxj⟩ : ∃ x, dj[j]! = x := ⟨_, rfl⟩
                      obtain ⟨xp, hxp⟩ : ∃ x, dj[jp]! = x := ⟨_, rfl⟩
                      rw [hxj] at cj
                      rw [hxp] at cp
                      unfold encB at cj cp
                      have XJ := Lib.hid hxj
                      have XP := Lib.hid hxp
                      have hjl := Lib.hid hjp
                      have jj0 : (0 : Int) ≤ (j : Int) := by omega
                      have jj1 : (j : Int) < (n : Int) := by omega
                      have pp0 : (0 : Int) ≤ (jp : Int) := by omega
                      have pp1 : (jp : Int) < (n : Int) := by omega
                      have hne : j ≠ jp := by omega
                      clear hxj hxp
                      cases hlv : ltB xj xp with
                      | false =>
                        have HQ : Hid (dj = T) := Lib.hid (by rw [← HO.out]; have := shiftD_stop dj jp (by rw [show jp + 1 = j by omega, XJ.out, XP.out, hlv]); rw [show jp + 1 = j by omega] at this; exact this.symm)
                        have C2 : Hid (∀ w, Calls Try.prog 78 #[.int .u8 (xj.toNat : Int), .int .u8 (xp.toNat : Int)] w fun e w' => e = .returned (.bool false) ∧ w' = w) := Lib.hid (fun w => by have := C.out xj xp w; rwa [hlv] at this)
                        clear hlv hjp
                        go_wp2_with fail
                        go_quiet (first | (go_at_call 78; refine Calls.quiet_of_same (C2.out _)))
                        go_wp2
                        go_meet
                        exact ⟨by rw [HTT.out, ← HQ.out]; exact Lib.hid (holds_drewN HK.out _), Lib.hid (only_drewN HB.out _)⟩
                      | true =>
                        have HQ : Hid (shiftDown ltB jp (swp dj j jp) = T) := Lib.hid (by rw [← HO.out]; have := shiftD_go dj jp (by rw [show jp + 1 = j by omega, XJ.out, XP.out, hlv]); rw [show jp + 1 = j by omega] at this; exact this.symm)
                        have C2 : Hid (∀ w, Calls Try.prog 78 #[.int .u8 (xj.toNat : Int), .int .u8 (xp.toNat : Int)] w fun e w' => e = .returned (.bool true) ∧ w' = w) := Lib.hid (fun w => by have := C.out xj xp w; rwa [hlv] at this)
                        obtain ⟨gp, hgp⟩ : ∃ gp, gk = gp + 1 := ⟨gk - 1, by omega⟩
                        subst hgp
                        clear hlv
                        go_wp2_with fail
                        go_quiet (first | (go_at_call 78; refine Calls.quiet_of_same (C2.out _)))
                        go_wp2
                        go_region
                        all_goals
                          go_wp2
                          go_roundg gp
                          case measure => omega
                          case rel =>
                            refine ⟨jp, swp dj j jp, by go_num, by omega, by omega, Lib.hid (by rw [size_swp]; exact HS.out), Lib.hid ?_, Lib.hid (only_swap HB.out _ _ _ _ _), HQ⟩
                            have := swap_holds (holds_drewN HK.out (nq + 1)) (i := j) (j := jp) (by have := HS.out; omega) (by have := HS.out; omega) hne
                            rw [XJ.out, XP.out] at this
                            exact this
                    · obtain rfl : j = 0 := by omega
                      have hj1z : ¬ (1 : Int) ≤ ((0 : Nat) : Int) := by omega
                      have HQ : Hid (dj = T) := HO
                      go_wp2
                      go_meet
                      exact ⟨by rw [HTT.out, ← HQ.out]; exact HK, HB⟩
                · have h2z : ¬ (2 : Int) ≤ (ia : Int) := by omega
                  have HT : Hid (d1 = T) := Lib.hid (by
                    rw [← hT]
                    unfold fixDown
                    rw [hia, if_neg h2])
                  clear hT HE
                  go_wp2
                  go_meet
                  exact ⟨by rw [HTT.out, ← HT.out]; exact HK1, HB1⟩
              case rest =>
                obtain ⟨HK2, HB2⟩ := hcut
                have HS2 : Hid ((fixDown ltB a i d1).size = n) := Lib.hid (by
                  unfold fixDown
                  split
                  · rw [size_shiftD]; exact HS1.out
                  · exact HS1.out)
                obtain ⟨d2, hd2⟩ : ∃ d2, fixDown ltB a i d1 = d2 := ⟨_, rfl⟩
                rw [hd2] at HS2 HE HK2
                clear hd2 HS1 HK1 HB1
                obtain ⟨T, hT⟩ : ∃ T, fixUp ltB b i d2 = T := ⟨_, rfl⟩
                have HS3 : Hid (T.size = n) := Lib.hid (by
                  rw [← hT]
                  unfold fixUp
                  split
                  · rw [size_shiftU b (b - (i + 1)) _ _ (Nat.le_refl _)]; exact HS2.out
                  · exact HS2.out)
                rw [hT] at HE
                have HE3 := HE
                by_cases h2 : 2 ≤ bi
                · have h2z : (2 : Int) ≤ (bi : Int) := by omega
                  have HT : Hid (shiftUp ltB b (i + 1) d2 = T) := Lib.hid (by
                    rw [← hT]
                    unfold fixUp
                    rw [hbi, if_pos h2])
                  clear hT
                  go_wp2_with fail
                  go_loopg [10] (b + 1 - i) (fun gq s10 wr => ∃ (j : Nat) (dj : Array UInt8), s10 = .int .i64 j ∧ 1 ≤ j ∧ j ≤ b ∧ b - j + 1 ≤ gq ∧ Hid (dj.size = n) ∧ Hid (Holds encB wr blk off dj) ∧ Hid (OnlyAt blk w.heap.size w wr) ∧ Hid (shiftUp ltB b j dj = T))
                  case atStart => exact ⟨i + 1, d2, by go_num, by omega, by omega, by omega, HS2, HK2, HB2, HT⟩
                  case round =>
                    clear HS2 HK2 HB2 HT
                    obtain ⟨j, dj, rfl, hj1, hjb2, hjg, HS, HK, HB, HO⟩ := hrel
                    by_cases hjb : j < b
                    · have hjbz : (j : Int) < (b : Int) := by omega
                      obtain ⟨jp, hjp⟩ : ∃ jp, j - 1 = jp := ⟨_, rfl⟩
                      have q1 : (j : Int) - 1 = (jp : Int) := by omega
                      have q2 : IntKind.i64.wrap (jp : Int) = (jp : Int) := by rw [IntKind.wrap_i64]; omega
                      have cj := (HK.out j (by have := HS.out; omega)).1
                      have cp := (HK.out jp (by have := HS.out; omega)).1
                      have fj := (HK.out j (by have := HS.out; omega)).2
                      have fp := (HK.out jp (by have := HS.out; omega)).2
                      obtain ⟨xj, hxj⟩ : ∃ x, dj[j]! = x := ⟨_, rfl⟩
                      obtain ⟨xp, hxp⟩ : ∃ x, dj[jp]! = x := ⟨_, rfl⟩
                      rw [hxj] at cj
                      rw [hxp] at cp
                      unfold encB at cj cp
                      have XJ := Lib.hid hxj
                      have XP := Lib.hid hxp
                      have hjl := Lib.hid hjp
                      have jj0 : (0 : Int) ≤ (j : Int) := by omega
                      have jj1 : (j : Int) < (n : Int) := by omega
                      have pp0 : (0 : Int) ≤ (jp : Int) := by omega
                      have pp1 : (jp : Int) < (n : Int) := by omega
                      have hne : j ≠ jp := by omega
                      clear hxj hxp
                      cases hlv : ltB xj xp with
                      | false =>
                        have HQ : Hid (dj = T) := Lib.hid (by rw [← HO.out]; exact (shiftU_stop dj b j hjb (by rw [hjl.out, XJ.out, XP.out, hlv])).symm)
                        have C2 : Hid (∀ w, Calls Try.prog 78 #[.int .u8 (xj.toNat : Int), .int .u8 (xp.toNat : Int)] w fun e w' => e = .returned (.bool false) ∧ w' = w) := Lib.hid (fun w => by have := C.out xj xp w; rwa [hlv] at this)
                        clear hlv hjp
                        go_wp2_with fail
                        go_quiet (first | (go_at_call 78; refine Calls.quiet_of_same (C2.out _)))
                        go_wp2
                        go_roundg g'
                        case measure => omega
                        case rel => exact ⟨i, T, rfl, by first | rfl | (congr 1) | go_num, by omega, hai2, hib2, HS3, by rw [← HQ.out]; exact Lib.hid (holds_drewN HK.out _), Lib.hid (only_drewN HB.out _), HE3⟩
                      | true =>
                        have HQ : Hid (shiftUp ltB b (j + 1) (swp dj j jp) = T) := Lib.hid (by rw [← HO.out]; have := shiftU_go dj b j hjb (by rw [hjl.out, XJ.out, XP.out, hlv]); rw [hjl.out] at this; exact this.symm)
                        have C2 : Hid (∀ w, Calls Try.prog 78 #[.int .u8 (xj.toNat : Int), .int .u8 (xp.toNat : Int)] w fun e w' => e = .returned (.bool true) ∧ w' = w) := Lib.hid (fun w => by have := C.out xj xp w; rwa [hlv] at this)
                        obtain ⟨gp, hgp⟩ : ∃ gp, gk = gp + 1 := ⟨gk - 1, by omega⟩
                        subst hgp
                        clear hlv
                        go_wp2_with fail
                        go_quiet (first | (go_at_call 78; refine Calls.quiet_of_same (C2.out _)))
                        go_wp2
                        go_region
                        all_goals
                          go_wp2
                          go_roundg gp
                          case measure => omega
                          case rel =>
                            refine ⟨j + 1, swp dj j jp, by go_num, by omega, by omega, by omega, Lib.hid (by rw [size_swp]; exact HS.out), Lib.hid ?_, Lib.hid (only_swap HB.out _ _ _ _ _), HQ⟩
                            have := swap_holds (holds_drewN HK.out (nq + 1)) (i := j) (j := jp) (by have := HS.out; omega) (by have := HS.out; omega) hne
                            rw [XJ.out, XP.out] at this
                            exact this
                    · have hjbz : ¬ (j : Int) < (b : Int) := by omega
                      have HQ : Hid (dj = T) := Lib.hid (by rw [← HO.out, shiftU_end dj b j hjb])
                      go_wp2
                      go_roundg g'
                      case measure => omega
                      case rel => exact ⟨i, T, rfl, by first | rfl | (congr 1) | go_num, by omega, hai2, hib2, HS3, by rw [← HQ.out]; exact HK, HB, HE3⟩
                · have h2z : ¬ (2 : Int) ≤ (bi : Int) := by omega
                  have HT : Hid (d2 = T) := Lib.hid (by
                    rw [← hT]
                    unfold fixUp
                    rw [hbi, if_neg h2])
                  clear hT
                  go_wp2
                  go_roundg g'
                  case measure => omega
                  case rel => exact ⟨i, T, rfl, by first | rfl | (congr 1) | go_num, by omega, hai2, hib2, HS3, by rw [← HT.out]; exact HK2, HB2, HE3⟩
end Go.Proofs.Ytchobpfdmkgnoaa
