/-
  What is proved: what slices.Sort's siftDown does to bytes in memory. Nothing else that lay in memory is changed.
-/
import Derived.Test.YtchobpfdmkgnoaaDfSort
import Derived.Handy
namespace Go.Proofs.Ytchobpfdmkgnoaa
open Go.RowKit Go.Shelf Go.Sort

set_option maxRecDepth 100000 in
set_option maxHeartbeats 2000000 in
/-- slices.siftDownOrdered. -/
theorem sift_any (blk off cap lo hi first : Nat) (d : Array UInt8) (w : World) (hH : Holds encB w blk off d) (hb : first + hi ≤ d.size) (hlo : lo ≤ 1000000) (hsz : d.size ≤ 1000000) :
    Calls Try.prog 85 #[.slice (some ⟨blk, off, none⟩) d.size cap, .int .i64 (lo : Int), .int .i64 (hi : Int), .int .i64 (first : Int)] w fun e w' => e = .returned (.tuple #[]) ∧ Holds encB w' blk off (siftDown ltB hi first lo d) ∧ OnlyAt blk w.heap.size w w' := by
  have C := Lib.hid less_any
  obtain ⟨n, hn⟩ : ∃ n, d.size = n := ⟨_, rfl⟩
  have HH : Hid (Holds encB w blk off d) := hH
  have HN : Hid (d.size = n) := hn
  rw [hn] at hb hsz
  rw [hn]
  clear hH hn
  go_enter Try.func85, Try.ntmps85
  go_wp2
  go_loopg [8] hi (fun gk s8 wr => ∃ (r : Nat) (dk : Array UInt8), s8 = .int .i64 r ∧ r ≤ 1000000 ∧ hi - r ≤ gk ∧ Hid (dk.size = n) ∧ Hid (Holds encB wr blk off dk) ∧ Hid (OnlyAt blk w.heap.size w wr) ∧ Hid (siftDown ltB hi first r dk = siftDown ltB hi first lo d))
  case atStart => exact ⟨lo, d, rfl, hlo, by omega, HN, HH, Lib.hid (OnlyAt.refl _ _ _), Lib.hid rfl⟩
  case round =>
    obtain ⟨r, dk, rfl, hr, hg, HS, HK, HB, HO⟩ := hrel
    clear HH
    obtain ⟨c, hc⟩ : ∃ c, 2 * r + 1 = c := ⟨_, rfl⟩
    have e0 : IntKind.i64.wrap (2 * (r : Int)) = 2 * (r : Int) := by rw [IntKind.wrap_i64]; omega
    have e1 : 2 * (r : Int) + 1 = (c : Int) := by omega
    by_cases hch : hi ≤ c
    · have z : (hi : Int) ≤ (c : Int) := by omega
      have hd : decide ((hi : Int) ≤ (c : Int)) = true := decide_eq_true z
      have HE : Hid (siftDown ltB hi first lo d = dk) := Lib.hid (by
        rw [← HO.out, siftDown.eq_def, dif_pos (by omega)])
      clear hc
      go_wp2_with fail
      go_end0
      exact ⟨rfl, by rw [HE.out]; exact HK.out, HB.out⟩
    · have z : ¬ ((hi : Int) ≤ (c : Int)) := by omega
      have hd : decide ((hi : Int) ≤ (c : Int)) = false := decide_eq_false z
      have e2 : IntKind.i64.wrap ((c : Int) + 1) = (c : Int) + 1 := by rw [IntKind.wrap_i64]; omega
      by_cases hc2 : c + 1 < hi
      · have z2 : (c : Int) + 1 < (hi : Int) := by omega
        have hd2 : decide ((c : Int) + 1 < (hi : Int)) = true := decide_eq_true z2
        obtain ⟨p, hp⟩ : ∃ p, first + c = p := ⟨_, rfl⟩
        obtain ⟨q, hq⟩ : ∃ q, first + r = q := ⟨_, rfl⟩
        obtain ⟨t, ht⟩ : ∃ t, p + 1 = t := ⟨_, rfl⟩
        obtain ⟨c2, hcc⟩ : ∃ c2, c + 1 = c2 := ⟨_, rfl⟩
        have e3 : (first : Int) + (c : Int) = (p : Int) := by omega
        have e4 : (first : Int) + (r : Int) = (q : Int) := by omega
        have e7 : (p : Int) + 1 = (t : Int) := by omega
        have e8 : (first : Int) + ((c : Int) + 1) = (t : Int) := by omega
        have e9 : IntKind.i64.wrap (t : Int) = (t : Int) := by rw [IntKind.wrap_i64]; omega
        have e5 : IntKind.i64.wrap (p : Int) = (p : Int) := by rw [IntKind.wrap_i64]; omega
        have e6 : IntKind.i64.wrap (q : Int) = (q : Int) := by rw [IntKind.wrap_i64]; omega
        have hpn : p < n := by omega
        have hqn : q < n := by omega
        have htn : t < n := by omega
        have p1 : (p : Int) < (n : Int) := by omega
        have q1 : (q : Int) < (n : Int) := by omega
        have t1 : (t : Int) < (n : Int) := by omega
        have p0 : (0 : Int) ≤ (p : Int) := by omega
        have q0 : (0 : Int) ≤ (q : Int) := by omega
        have t0 : (0 : Int) ≤ (t : Int) := by omega
        have cp := (HK.out p (by have := HS.out; omega)).1
        have cq := (HK.out q (by have := HS.out; omega)).1
        have cr := (HK.out t (by have := HS.out; omega)).1
        have fp := (HK.out p (by have := HS.out; omega)).2
        have fq := (HK.out q (by have := HS.out; omega)).2
        have fr := (HK.out t (by have := HS.out; omega)).2
        obtain ⟨xp, hxp⟩ : ∃ x, dk[p]! = x := ⟨_, rfl⟩
        obtain ⟨xq, hxq⟩ : ∃ x, dk[q]! = x := ⟨_, rfl⟩
        obtain ⟨xr, hxr⟩ : ∃ x, dk[t]! = x := ⟨_, rfl⟩
        rw [hxp] at cp
        rw [hxq] at cq
        rw [hxr] at cr
        unfold encB at cp cq cr
        have XP := Lib.hid hxp
        have XQ := Lib.hid hxq
        have XR := Lib.hid hxr
        have HC := Lib.hid hc
        have HP := Lib.hid hp
        have HQ := Lib.hid hq
        have HP2 := Lib.hid ht
        have HC2 := Lib.hid hcc
        have HPR : Hid (first + (2 * r + 2) = t) := Lib.hid (by omega)
        have HCC : Hid (2 * r + 2 = c2) := Lib.hid (by omega)
        have ec2 : (c2 : Int) = (c : Int) + 1 := by omega
        clear hxp hxq hxr hc hp hq ht
        cases hl1 : ltB xp xr with
        | true =>
          have C1 : Hid (∀ w, Calls Try.prog 78 #[.int .u8 (xp.toNat : Int), .int .u8 (xr.toNat : Int)] w fun e w' => e = .returned (.bool true) ∧ w' = w) := Lib.hid (fun w => by have := C.out xp xr w; rwa [hl1] at this)
          have HL1 := Lib.hid hl1
          clear hl1
          have C2 := Lib.hid (fun w => C.out xq xr w)
          cases hlv : ltB xq xr with
          | false =>
            replace C2 : Hid (∀ w, Calls Try.prog 78 #[.int .u8 (xq.toNat : Int), .int .u8 (xr.toNat : Int)] w fun e w' => e = .returned (.bool false) ∧ w' = w) := Lib.hid (fun w => by have := C2.out w; rwa [hlv] at this)
            have HLV := Lib.hid hlv
            clear hlv
            have HE : Hid (siftDown ltB hi first lo d = dk) := Lib.hid (by
              rw [← HO.out, siftDown.eq_def ltB hi first r dk, dif_neg (by have := HC.out; omega), if_pos (by rw [HC.out, HP.out, HP2.out, XP.out, XR.out, HL1.out]; simpa using hc2), HPR.out, HQ.out, XQ.out, XR.out, HLV.out]
              rfl)
            go_wp2_with fail
            go_quiet (first | (go_at_call 78; refine Calls.quiet_of_same (C1.out _)))
            go_wp2_with fail
            obtain ⟨w2, hw2⟩ : ∃ w2, wr.drewN nq = w2 := ⟨_, rfl⟩
            have HK2 : Hid (Holds encB w2 blk off dk) := Lib.hid (hw2 ▸ holds_drewN HK.out nq)
            have HB2 : Hid (OnlyAt blk w.heap.size w w2) := Lib.hid (hw2 ▸ only_drewN HB.out nq)
            rw [hw2]
            have cp2 : w2.cell? ⟨blk, off + t, none⟩ = some (.int .u8 (xr.toNat : Int)) := by have := (HK2.out t (by have := HS.out; omega)).1; rw [XR.out] at this; exact this
            have cq2 : w2.cell? ⟨blk, off + q, none⟩ = some (.int .u8 (xq.toNat : Int)) := by have := (HK2.out q (by have := HS.out; omega)).1; rw [XQ.out] at this; exact this
            have fp2 := (HK2.out t (by have := HS.out; omega)).2
            have fq2 := (HK2.out q (by have := HS.out; omega)).2
            clear hw2 HK HB cp cq fp fq cr fr
            go_wp2_with fail
            go_quiet (first | (go_at_call 78; refine Calls.quiet_of_same (C2.out _)))
            go_wp2
            try rw [Exit.noGoto_ret]
            first | go_end0 | (refine bodyPost_ret (results_none rfl _ _ _) rfl ?_)
            exact ⟨rfl, by rw [HE.out]; exact HK2.out, only_drewN HB2.out _⟩
          | true =>
            replace C2 : Hid (∀ w, Calls Try.prog 78 #[.int .u8 (xq.toNat : Int), .int .u8 (xr.toNat : Int)] w fun e w' => e = .returned (.bool true) ∧ w' = w) := Lib.hid (fun w => by have := C2.out w; rwa [hlv] at this)
            have HLV := Lib.hid hlv
            clear hlv
            obtain ⟨g', rfl⟩ : ∃ g', gk = g' + 1 := ⟨gk - 1, by have := HC.out; omega⟩
            have HM : Hid (hi - c2 ≤ g') := Lib.hid (by have := HC.out; have := HC2.out; omega)
            have HPQ : Hid (q ≠ t) := Lib.hid (by have := HC.out; have := HP.out; have := HP2.out; have := HQ.out; omega)
            have HE : Hid (siftDown ltB hi first c2 (swp dk q t) = siftDown ltB hi first lo d) := Lib.hid (by
              rw [← HO.out, siftDown.eq_def ltB hi first r dk, dif_neg (by have := HC.out; omega), if_pos (by rw [HC.out, HP.out, HP2.out, XP.out, XR.out, HL1.out]; simpa using hc2), HPR.out, HQ.out, XQ.out, XR.out, HLV.out, if_neg (by simp), dif_pos (by omega), HCC.out])
            go_wp2_with fail
            go_quiet (first | (go_at_call 78; refine Calls.quiet_of_same (C1.out _)))
            go_wp2_with fail
            obtain ⟨w2, hw2⟩ : ∃ w2, wr.drewN nq = w2 := ⟨_, rfl⟩
            have HK2 : Hid (Holds encB w2 blk off dk) := Lib.hid (hw2 ▸ holds_drewN HK.out nq)
            have HB2 : Hid (OnlyAt blk w.heap.size w w2) := Lib.hid (hw2 ▸ only_drewN HB.out nq)
            rw [hw2]
            have cp2 : w2.cell? ⟨blk, off + t, none⟩ = some (.int .u8 (xr.toNat : Int)) := by have := (HK2.out t (by have := HS.out; omega)).1; rw [XR.out] at this; exact this
            have cq2 : w2.cell? ⟨blk, off + q, none⟩ = some (.int .u8 (xq.toNat : Int)) := by have := (HK2.out q (by have := HS.out; omega)).1; rw [XQ.out] at this; exact this
            have fp2 := (HK2.out t (by have := HS.out; omega)).2
            have fq2 := (HK2.out q (by have := HS.out; omega)).2
            clear hw2 HK HB cp cq fp fq cr fr
            go_wp2_with fail
            go_quiet (first | (go_at_call 78; refine Calls.quiet_of_same (C2.out _)))
            go_wp2
            go_region
            all_goals
              go_wp2
              go_roundg g'
              case measure => omega
              case rel =>
                refine ⟨c2, swp dk q t, iv (by omega), by omega, HM.out, Lib.hid (by rw [size_swp]; exact HS.out), Lib.hid ?_, Lib.hid ?_, HE⟩
                · have := swap_holds HK2.out (i := q) (j := t) (by have := HS.out; omega) (by have := HS.out; omega) HPQ.out
                  rw [XR.out, XQ.out] at this
                  exact this
                · first | exact ((only_drewN HB2.out _).set _ _).set _ _ | exact (((only_drewN HB2.out _).set _ _).set _ _).drew
        | false =>
          have C1 : Hid (∀ w, Calls Try.prog 78 #[.int .u8 (xp.toNat : Int), .int .u8 (xr.toNat : Int)] w fun e w' => e = .returned (.bool false) ∧ w' = w) := Lib.hid (fun w => by have := C.out xp xr w; rwa [hl1] at this)
          have HL1 := Lib.hid hl1
          clear hl1
          have C2 := Lib.hid (fun w => C.out xq xp w)
          cases hlv : ltB xq xp with
          | false =>
            replace C2 : Hid (∀ w, Calls Try.prog 78 #[.int .u8 (xq.toNat : Int), .int .u8 (xp.toNat : Int)] w fun e w' => e = .returned (.bool false) ∧ w' = w) := Lib.hid (fun w => by have := C2.out w; rwa [hlv] at this)
            have HLV := Lib.hid hlv
            clear hlv
            have HE : Hid (siftDown ltB hi first lo d = dk) := Lib.hid (by
              rw [← HO.out, siftDown.eq_def ltB hi first r dk, dif_neg (by have := HC.out; omega), if_neg (by rw [HC.out, HP.out, HP2.out, XP.out, XR.out, HL1.out]; simp), HC.out, HP.out, HQ.out, XQ.out, XP.out, HLV.out]
              rfl)
            go_wp2_with fail
            go_quiet (first | (go_at_call 78; refine Calls.quiet_of_same (C1.out _)))
            go_wp2_with fail
            obtain ⟨w2, hw2⟩ : ∃ w2, wr.drewN nq = w2 := ⟨_, rfl⟩
            have HK2 : Hid (Holds encB w2 blk off dk) := Lib.hid (hw2 ▸ holds_drewN HK.out nq)
            have HB2 : Hid (OnlyAt blk w.heap.size w w2) := Lib.hid (hw2 ▸ only_drewN HB.out nq)
            rw [hw2]
            have cp2 : w2.cell? ⟨blk, off + p, none⟩ = some (.int .u8 (xp.toNat : Int)) := by have := (HK2.out p (by have := HS.out; omega)).1; rw [XP.out] at this; exact this
            have cq2 : w2.cell? ⟨blk, off + q, none⟩ = some (.int .u8 (xq.toNat : Int)) := by have := (HK2.out q (by have := HS.out; omega)).1; rw [XQ.out] at this; exact this
            have fp2 := (HK2.out p (by have := HS.out; omega)).2
            have fq2 := (HK2.out q (by have := HS.out; omega)).2
            clear hw2 HK HB cp cq fp fq cr fr
            go_wp2_with fail
            go_quiet (first | (go_at_call 78; refine Calls.quiet_of_same (C2.out _)))
            go_wp2
            try rw [Exit.noGoto_ret]
            first | go_end0 | (refine bodyPost_ret (results_none rfl _ _ _) rfl ?_)
            exact ⟨rfl, by rw [HE.out]; exact HK2.out, only_drewN HB2.out _⟩
          | true =>
            replace C2 : Hid (∀ w, Calls Try.prog 78 #[.int .u8 (xq.toNat : Int), .int .u8 (xp.toNat : Int)] w fun e w' => e = .returned (.bool true) ∧ w' = w) := Lib.hid (fun w => by have := C2.out w; rwa [hlv] at this)
            have HLV := Lib.hid hlv
            clear hlv
            obtain ⟨g', rfl⟩ : ∃ g', gk = g' + 1 := ⟨gk - 1, by have := HC.out; omega⟩
            have HM : Hid (hi - c ≤ g') := Lib.hid (by have := HC.out; have := HC2.out; omega)
            have HPQ : Hid (q ≠ p) := Lib.hid (by have := HC.out; have := HP.out; have := HP2.out; have := HQ.out; omega)
            have HE : Hid (siftDown ltB hi first c (swp dk q p) = siftDown ltB hi first lo d) := Lib.hid (by
              rw [← HO.out, siftDown.eq_def ltB hi first r dk, dif_neg (by have := HC.out; omega), if_neg (by rw [HC.out, HP.out, HP2.out, XP.out, XR.out, HL1.out]; simp), HC.out, HP.out, HQ.out, XQ.out, XP.out, HLV.out]
              rfl)
            go_wp2_with fail
            go_quiet (first | (go_at_call 78; refine Calls.quiet_of_same (C1.out _)))
            go_wp2_with fail
            obtain ⟨w2, hw2⟩ : ∃ w2, wr.drewN nq = w2 := ⟨_, rfl⟩
            have HK2 : Hid (Holds encB w2 blk off dk) := Lib.hid (hw2 ▸ holds_drewN HK.out nq)
            have HB2 : Hid (OnlyAt blk w.heap.size w w2) := Lib.hid (hw2 ▸ only_drewN HB.out nq)
            rw [hw2]
            have cp2 : w2.cell? ⟨blk, off + p, none⟩ = some (.int .u8 (xp.toNat : Int)) := by have := (HK2.out p (by have := HS.out; omega)).1; rw [XP.out] at this; exact this
            have cq2 : w2.cell? ⟨blk, off + q, none⟩ = some (.int .u8 (xq.toNat : Int)) := by have := (HK2.out q (by have := HS.out; omega)).1; rw [XQ.out] at this; exact this
            have fp2 := (HK2.out p (by have := HS.out; omega)).2
            have fq2 := (HK2.out q (by have := HS.out; omega)).2
            clear hw2 HK HB cp cq fp fq cr fr
            go_wp2_with fail
            go_quiet (first | (go_at_call 78; refine Calls.quiet_of_same (C2.out _)))
            go_wp2
            go_region
            all_goals
              go_wp2
              go_roundg g'
              case measure => omega
              case rel =>
                refine ⟨c, swp dk q p, rfl, by omega, HM.out, Lib.hid (by rw [size_swp]; exact HS.out), Lib.hid ?_, Lib.hid ?_, HE⟩
                · have := swap_holds HK2.out (i := q) (j := p) (by have := HS.out; omega) (by have := HS.out; omega) HPQ.out
                  rw [XP.out, XQ.out] at this
                  exact this
                · first | exact ((only_drewN HB2.out _).set _ _).set _ _ | exact (((only_drewN HB2.out _).set _ _).set _ _).drew
      · have z2 : ¬ ((c : Int) + 1 < (hi : Int)) := by omega
        have hd2 : decide ((c : Int) + 1 < (hi : Int)) = false := decide_eq_false z2
        obtain ⟨p, hp⟩ : ∃ p, first + c = p := ⟨_, rfl⟩
        obtain ⟨q, hq⟩ : ∃ q, first + r = q := ⟨_, rfl⟩
        have e3 : (first : Int) + (c : Int) = (p : Int) := by omega
        have e4 : (first : Int) + (r : Int) = (q : Int) := by omega
        have e5 : IntKind.i64.wrap (p : Int) = (p : Int) := by rw [IntKind.wrap_i64]; omega
        have e6 : IntKind.i64.wrap (q : Int) = (q : Int) := by rw [IntKind.wrap_i64]; omega
        have hpn : p < n := by omega
        have hqn : q < n := by omega
        have p1 : (p : Int) < (n : Int) := by omega
        have q1 : (q : Int) < (n : Int) := by omega
        have p0 : (0 : Int) ≤ (p : Int) := by omega
        have q0 : (0 : Int) ≤ (q : Int) := by omega
        have cp := (HK.out p (by have := HS.out; omega)).1
        have cq := (HK.out q (by have := HS.out; omega)).1
        have fp := (HK.out p (by have := HS.out; omega)).2
        have fq := (HK.out q (by have := HS.out; omega)).2
        obtain ⟨xp, hxp⟩ : ∃ x, dk[p]! = x := ⟨_, rfl⟩
        obtain ⟨xq, hxq⟩ : ∃ x, dk[q]! = x := ⟨_, rfl⟩
        rw [hxp] at cp
        rw [hxq] at cq
        unfold encB at cp cq
        have XP := Lib.hid hxp
        have XQ := Lib.hid hxq
        have C1 := Lib.hid (fun w => C.out xq xp w)
        have HC := Lib.hid hc
        have HP := Lib.hid hp
        have HQ := Lib.hid hq
        clear hxp hxq hc hp hq
        cases hlv : ltB xq xp with
        | false =>
          replace C1 : Hid (∀ w, Calls Try.prog 78 #[.int .u8 (xq.toNat : Int), .int .u8 (xp.toNat : Int)] w fun e w' => e = .returned (.bool false) ∧ w' = w) := Lib.hid (fun w => by have := C1.out w; rwa [hlv] at this)
          have HLV := Lib.hid hlv
          clear hlv
          have HE : Hid (siftDown ltB hi first lo d = dk) := Lib.hid (by
            rw [← HO.out, siftDown.eq_def, dif_neg (by have := HC.out; omega), if_neg (by have := HC.out; simp; omega), HC.out, HP.out, HQ.out, XQ.out, XP.out, HLV.out]
            rfl)
          go_wp2_with fail
          go_quiet (fail)
          go_wp2_with fail
          obtain ⟨w2, hw2⟩ : ∃ w2, wr.drewN nq = w2 := ⟨_, rfl⟩
          have HK2 : Hid (Holds encB w2 blk off dk) := Lib.hid (hw2 ▸ holds_drewN HK.out nq)
          have HB2 : Hid (OnlyAt blk w.heap.size w w2) := Lib.hid (hw2 ▸ only_drewN HB.out nq)
          rw [hw2]
          have cp2 : w2.cell? ⟨blk, off + p, none⟩ = some (.int .u8 (xp.toNat : Int)) := by have := (HK2.out p (by have := HS.out; omega)).1; rw [XP.out] at this; exact this
          have cq2 : w2.cell? ⟨blk, off + q, none⟩ = some (.int .u8 (xq.toNat : Int)) := by have := (HK2.out q (by have := HS.out; omega)).1; rw [XQ.out] at this; exact this
          have fp2 := (HK2.out p (by have := HS.out; omega)).2
          have fq2 := (HK2.out q (by have := HS.out; omega)).2
          clear hw2 HK HB cp cq fp fq
          go_wp2_with fail
          go_quiet (first | (go_at_call 78; refine Calls.quiet_of_same (C1.out _)))
          go_wp2
          try rw [Exit.noGoto_ret]
          first | go_end0 | (refine bodyPost_ret (results_none rfl _ _ _) rfl ?_)
          exact ⟨rfl, by rw [HE.out]; exact HK2.out, only_drewN HB2.out _⟩
        | true =>
          replace C1 : Hid (∀ w, Calls Try.prog 78 #[.int .u8 (xq.toNat : Int), .int .u8 (xp.toNat : Int)] w fun e w' => e = .returned (.bool true) ∧ w' = w) := Lib.hid (fun w => by have := C1.out w; rwa [hlv] at this)
          have HLV := Lib.hid hlv
          clear hlv
          obtain ⟨g', rfl⟩ : ∃ g', gk = g' + 1 := ⟨gk - 1, by have := HC.out; omega⟩
          have HM : Hid (hi - c ≤ g') := Lib.hid (by have := HC.out; omega)
          have HPQ : Hid (q ≠ p) := Lib.hid (by have := HC.out; have := HP.out; have := HQ.out; omega)
          have HE : Hid (siftDown ltB hi first c (swp dk q p) = siftDown ltB hi first lo d) := Lib.hid (by
            rw [← HO.out, siftDown.eq_def ltB hi first r dk, dif_neg (by have := HC.out; omega), if_neg (by have := HC.out; simp; omega), HC.out, HP.out, HQ.out, XQ.out, XP.out, HLV.out]
            rfl)
          go_wp2_with fail
          go_quiet (fail)
          go_wp2_with fail
          obtain ⟨w2, hw2⟩ : ∃ w2, wr.drewN nq = w2 := ⟨_, rfl⟩
          have HK2 : Hid (Holds encB w2 blk off dk) := Lib.hid (hw2 ▸ holds_drewN HK.out nq)
          have HB2 : Hid (OnlyAt blk w.heap.size w w2) := Lib.hid (hw2 ▸ only_drewN HB.out nq)
          rw [hw2]
          have cp2 : w2.cell? ⟨blk, off + p, none⟩ = some (.int .u8 (xp.toNat : Int)) := by have := (HK2.out p (by have := HS.out; omega)).1; rw [XP.out] at this; exact this
          have cq2 : w2.cell? ⟨blk, off + q, none⟩ = some (.int .u8 (xq.toNat : Int)) := by have := (HK2.out q (by have := HS.out; omega)).1; rw [XQ.out] at this; exact this
          have fp2 := (HK2.out p (by have := HS.out; omega)).2
          have fq2 := (HK2.out q (by have := HS.out; omega)).2
          clear hw2 HK HB cp cq fp fq
          go_wp2_with fail
          go_quiet (first | (go_at_call 78; refine Calls.quiet_of_same (C1.out _)))
          go_wp2
          go_region
          all_goals
            go_wp2
            go_roundg g'
            case measure => omega
            case rel =>
              refine ⟨c, swp dk q p, rfl, by omega, HM.out, Lib.hid (by rw [size_swp]; exact HS.out), Lib.hid ?_, Lib.hid ?_, HE⟩
              · have := swap_holds HK2.out (i := q) (j := p) (by have := HS.out; omega) (by have := HS.out; omega) HPQ.out
                rw [XP.out, XQ.out] at this
                exact this
              · first | exact ((only_drewN HB2.out _).set _ _).set _ _ | exact (((only_drewN HB2.out _).set _ _).set _ _).drew
end Go.Proofs.Ytchobpfdmkgnoaa
