/-
  What is proved: what slices.Sort's functions beside the insertion sort do to bytes in memory (in work: reverseRange). Nothing else that lay in memory is changed.
  What is proved: what slices.Sort's siftDown does to bytes in memory. Nothing else that lay in memory is changed.
  What is proved: what slices.Sort's heapSort does to bytes in memory. Nothing else that lay in memory is changed.
  What is proved: what slices.Sort's functions that choose a pivot return on bytes in memory; they write nothing but the count of swaps.
-/
import Derived.Test.YtnpgmekgmelamaaGreatDfLet
import Derived.Handy
namespace Go.Proofs.YtnpgmekgmelamaaGreat
open Go.RowKit Go.Shelf Go.Sort

set_option maxRecDepth 100000 in
set_option maxHeartbeats 2000000 in
/-- slices.reverseRangeOrdered. -/
theorem reverse_any (blk off cap a b : Nat) (d : Array UInt8) (w : World) (hH : Holds encB w blk off d) (hab : a < b) (hb : b ≤ d.size) (hsz : d.size ≤ 1000000) :
    Calls Tryz.prog 169 #[.slice (some ⟨blk, off, none⟩) d.size cap, .int .i64 (a : Int), .int .i64 (b : Int)] w fun e w' => e = .returned (.tuple #[]) ∧ Holds encB w' blk off (reverseRange d a b) ∧ OnlyAt blk w.heap.size w w' := by
  obtain ⟨n, hn⟩ : ∃ n, d.size = n := ⟨_, rfl⟩
  have HH : Hid (Holds encB w blk off d) := hH
  have HN : Hid (d.size = n) := hn
  rw [hn] at hb hsz
  rw [hn]
  clear hH hn
  go_enter Tryz.func169, Tryz.ntmps169
  go_wp2
  go_loopg [6, 7] (b - a) (fun gk s6 s7 wr => ∃ (i j : Nat) (dk : Array UInt8), s6 = .int .i64 i ∧ s7 = .int .i64 j ∧ a ≤ i ∧ i ≤ b ∧ j < b ∧ j - i ≤ gk ∧ Hid (dk.size = n) ∧ Hid (Holds encB wr blk off dk) ∧ Hid (OnlyAt blk w.heap.size w wr) ∧ Hid (reverseLoop i j dk = reverseLoop a (b - 1) d))
  case atStart => exact ⟨a, b - 1, d, rfl, by go_num, Nat.le_refl _, by omega, by omega, by omega, HN, HH, Lib.hid (OnlyAt.refl _ _ _), Lib.hid rfl⟩
  case round =>
    obtain ⟨i, j, dk, rfl, rfl, hai, hib, hjb, hg, HS, HK, HB, HO⟩ := hrel
    clear HH
    by_cases hij : i < j
    · have z : (i : Int) < (j : Int) := by omega
      have hd : decide ((i : Int) < (j : Int)) = true := decide_eq_true z
      have ci := (HK.out i (by have := HS.out; omega)).1
      have cj := (HK.out j (by have := HS.out; omega)).1
      have fi := (HK.out i (by have := HS.out; omega)).2
      have fj := (HK.out j (by have := HS.out; omega)).2
      obtain ⟨xi, hxi⟩ : ∃ x, dk[i]! = x := ⟨_, rfl⟩
      obtain ⟨xj, hxj⟩ : ∃ x, dk[j]! = x := ⟨_, rfl⟩
      rw [hxi] at ci
      rw [hxj] at cj
      unfold encB at ci cj
      have XI := Lib.hid hxi
      have XJ := Lib.hid hxj
      clear hxi hxj
      have i0 : (0 : Int) ≤ (i : Int) := by omega
      have i1 : (i : Int) < (n : Int) := by omega
      have j0 : (0 : Int) ≤ (j : Int) := by omega
      have j1 : (j : Int) < (n : Int) := by omega
      obtain ⟨g', rfl⟩ : ∃ g', gk = g' + 1 := ⟨gk - 1, by omega⟩
      go_wp2_with fail
      go_region
      all_goals
        go_wp2
        go_roundg g'
        case measure => omega
        case rel =>
          refine ⟨i + 1, j - 1, swp dk i j, iv (by omega), by go_num, by omega, by omega, by omega, by omega, Lib.hid (by rw [size_swp]; exact HS.out), Lib.hid ?_, Lib.hid ?_, Lib.hid ?_⟩
          · have := swap_holds HK.out (i := i) (j := j) (by have := HS.out; omega) (by have := HS.out; omega) (by omega)
            rw [XI.out, XJ.out] at this
            exact this
          · first
              | exact ((HB.out.set (off + i) _).set (off + j) _).drew
              | exact (HB.out.set (off + i) _).set (off + j) _
              | exact (((HB.out.drew).set (off + i) _).set (off + j) _)
          · rw [← HO.out, reverseLoop.eq_def i j dk, if_pos hij]
    · have z : ¬ ((i : Int) < (j : Int)) := by omega
      have hd : decide ((i : Int) < (j : Int)) = false := decide_eq_false z
      have HE : Hid (reverseRange d a b = dk) := Lib.hid (by
        unfold reverseRange
        rw [← HO.out]
        rw [reverseLoop.eq_def i j dk, if_neg hij])
      go_wp2
      go_end0
      exact ⟨rfl, by rw [HE.out]; exact HK.out, HB.out⟩
end Go.Proofs.YtnpgmekgmelamaaGreat

namespace Go.Proofs.YtnpgmekgmelamaaGreat
open Go.RowKit Go.Shelf Go.Sort

set_option maxRecDepth 100000 in
set_option maxHeartbeats 2000000 in
/-- slices.siftDownOrdered. -/
theorem sift_any (blk off cap lo hi first : Nat) (d : Array UInt8) (w : World) (hH : Holds encB w blk off d) (hb : first + hi ≤ d.size) (hlo : lo ≤ 1000000) (hsz : d.size ≤ 1000000) :
    Calls Tryz.prog 176 #[.slice (some ⟨blk, off, none⟩) d.size cap, .int .i64 (lo : Int), .int .i64 (hi : Int), .int .i64 (first : Int)] w fun e w' => e = .returned (.tuple #[]) ∧ Holds encB w' blk off (siftDown ltB hi first lo d) ∧ OnlyAt blk w.heap.size w w' := by
  have C := Lib.hid less_any
  obtain ⟨n, hn⟩ : ∃ n, d.size = n := ⟨_, rfl⟩
  have HH : Hid (Holds encB w blk off d) := hH
  have HN : Hid (d.size = n) := hn
  rw [hn] at hb hsz
  rw [hn]
  clear hH hn
  go_enter Tryz.func176, Tryz.ntmps176
  go_wp2
  go_loopg [8] hi (fun gk s8 wr => ∃ (r : Nat) (dk : Array UInt8), s8 = .int .i64 r ∧ r ≤ 1000000 ∧ hi - r ≤ gk ∧ Hid (dk.size = n) ∧ Hid (Holds encB wr blk off dk) ∧ Hid (OnlyAt blk w.heap.size w wr) ∧ Hid (siftDown ltB hi first r dk = siftDown ltB hi first lo d))
  case atStart => exact ⟨lo, d, rfl, hlo, by omega, HN, HH, Lib.hid (OnlyAt.refl _ _ _), Lib.hid rfl⟩
  case round =>
    obtain ⟨r, dk, rfl, hr, hg, HS, HK, HB, HO⟩ := hrel
    clear HH
    obtain ⟨c, hc⟩ : ∃ c, 2 * r + 1 = c := ⟨_, rfl⟩
    have e0 : IntKind.i64.wrap (2 * (r : Int)) = 2 * (r : Int) := by rw [IntKind.wrap_i64]; omega
    have e1 : 2 * (r : Int) + 1 = (c : Int) := by omega
    by_cases hch : hi ≤ c
    · have z : (hi : Int) ≤ (c : Int) := by omega
      have hd : decide ((hi : Int) ≤ (c : Int)) = true := decide_eq_true z
      have HE : Hid (siftDown ltB hi first lo d = dk) := Lib.hid (by
        rw [← HO.out, siftDown.eq_def, dif_pos (by omega)])
      clear hc
      go_wp2_with fail
      go_end0
      exact ⟨rfl, by rw [HE.out]; exact HK.out, HB.out⟩
    · have z : ¬ ((hi : Int) ≤ (c : Int)) := by omega
      have hd : decide ((hi : Int) ≤ (c : Int)) = false := decide_eq_false z
      have e2 : IntKind.i64.wrap ((c : Int) + 1) = (c : Int) + 1 := by rw [IntKind.wrap_i64]; omega
      by_cases hc2 : c + 1 < hi
      · have z2 : (c : Int) + 1 < (hi : Int) := by omega
        have hd2 : decide ((c : Int) + 1 < (hi : Int)) = true := decide_eq_true z2
        obtain ⟨p, hp⟩ : ∃ p, first + c = p := ⟨_, rfl⟩
        obtain ⟨q, hq⟩ : ∃ q, first + r = q := ⟨_, rfl⟩
        obtain ⟨t, ht⟩ : ∃ t, p + 1 = t := ⟨_, rfl⟩
        obtain ⟨c2, hcc⟩ : ∃ c2, c + 1 = c2 := ⟨_, rfl⟩
        have e3 : (first : Int) + (c : Int) = (p : Int) := by omega
        have e4 : (first : Int) + (r : Int) = (q : Int) := by omega
        have e7 : (p : Int) + 1 = (t : Int) := by omega
        have e8 : (first : Int) + ((c : Int) + 1) = (t : Int) := by omega
        have e9 : IntKind.i64.wrap (t : Int) = (t : Int) := by rw [IntKind.wrap_i64]; omega
        have e5 : IntKind.i64.wrap (p : Int) = (p : Int) := by rw [IntKind.wrap_i64]; omega
        have e6 : IntKind.i64.wrap (q : Int) = (q : Int) := by rw [IntKind.wrap_i64]; omega
        have hpn : p < n := by omega
        have hqn : q < n := by omega
        have htn : t < n := by omega
        have p1 : (p : Int) < (n : Int) := by omega
        have q1 : (q : Int) < (n : Int) := by omega
        have t1 : (t : Int) < (n : Int) := by omega
        have p0 : (0 : Int) ≤ (p : Int) := by omega
        have q0 : (0 : Int) ≤ (q : Int) := by omega
        have t0 : (0 : Int) ≤ (t : Int) := by omega
        have cp := (HK.out p (by have := HS.out; omega)).1
        have cq := (HK.out q (by have := HS.out; omega)).1
        have cr := (HK.out t (by have := HS.out; omega)).1
        have fp := (HK.out p (by have := HS.out; omega)).2
        have fq := (HK.out q (by have := HS.out; omega)).2
        have fr := (HK.out t (by have := HS.out; omega)).2
        obtain ⟨xp, hxp⟩ : ∃ x, dk[p]! = x := ⟨_, rfl⟩
        obtain ⟨xq, hxq⟩ : ∃ x, dk[q]! = x := ⟨_, rfl⟩
        obtain ⟨xr, hxr⟩ : ∃ x, dk[t]! = x := ⟨_, rfl⟩
        rw [hxp] at cp
        rw [hxq] at cq
        rw [hxr] at cr
        unfold encB at cp cq cr
        have XP := Lib.hid hxp
        have XQ := Lib.hid hxq
        have XR := Lib.hid hxr
        have HC := Lib.hid hc
        have HP := Lib.hid hp
        have HQ := Lib.hid hq
        have HP2 := Lib.hid ht
        have HC2 := Lib.hid hcc
        have HPR : Hid (first + (2 * r + 2) = t) := Lib.hid (by omega)
        have HCC : Hid (2 * r + 2 = c2) := Lib.hid (by omega)
        have ec2 : (c2 : Int) = (c : Int) + 1 := by omega
        clear hxp hxq hxr hc hp hq ht
        cases hl1 : ltB xp xr with
        | true =>
          have C1 : Hid (∀ w, Calls Tryz.prog 171 #[.int .u8 (xp.toNat : Int), .int .u8 (xr.toNat : Int)] w fun e w' => e = .returned (.bool true) ∧ w' = w) := Lib.hid (fun w => by have := C.out xp xr w; rwa [hl1] at this)
          have HL1 := Lib.hid hl1
          clear hl1
          have C2 := Lib.hid (fun w => C.out xq xr w)
          cases hlv : ltB xq xr with
          | false =>
            replace C2 : Hid (∀ w, Calls Tryz.prog 171 #[.int .u8 (xq.toNat : Int), .int .u8 (xr.toNat : Int)] w fun e w' => e = .returned (.bool false) ∧ w' = w) := Lib.hid (fun w => by have := C2.out w; rwa [hlv] at this)
            have HLV := Lib.hid hlv
            clear hlv
            have HE : Hid (siftDown ltB hi first lo d = dk) := Lib.hid (by
              rw [← HO.out, siftDown.eq_def ltB hi first r dk, dif_neg (by have := HC.out; omega), if_pos (by rw [HC.out, HP.out, HP2.out, XP.out, XR.out, HL1.out]; simpa using hc2), HPR.out, HQ.out, XQ.out, XR.out, HLV.out]
              rfl)
            go_wp2_with fail
            go_quiet (first | (go_at_call 171; refine Calls.quiet_of_same (C1.out _)))
            go_wp2_with fail
            obtain ⟨w2, hw2⟩ : ∃ w2, wr.drewN nq = w2 := ⟨_, rfl⟩
            have HK2 : Hid (Holds encB w2 blk off dk) := Lib.hid (hw2 ▸ holds_drewN HK.out nq)
            have HB2 : Hid (OnlyAt blk w.heap.size w w2) := Lib.hid (hw2 ▸ only_drewN HB.out nq)
            rw [hw2]
            have cp2 : w2.cell? ⟨blk, off + t, none⟩ = some (.int .u8 (xr.toNat : Int)) := by have := (HK2.out t (by have := HS.out; omega)).1; rw [XR.out] at this; exact this
            have cq2 : w2.cell? ⟨blk, off + q, none⟩ = some (.int .u8 (xq.toNat : Int)) := by have := (HK2.out q (by have := HS.out; omega)).1; rw [XQ.out] at this; exact this
            have fp2 := (HK2.out t (by have := HS.out; omega)).2
            have fq2 := (HK2.out q (by have := HS.out; omega)).2
            clear hw2 HK HB cp cq fp fq cr fr
            go_wp2_with fail
            go_quiet (first | (go_at_call 171; refine Calls.quiet_of_same (C2.out _)))
            go_wp2
            try rw [Exit.noGoto_ret]
            first | go_end0 | (refine bodyPost_ret (results_none rfl _ _ _) rfl ?_)
            exact ⟨rfl, by rw [HE.out]; exact HK2.out, only_drewN HB2.out _⟩
          | true =>
            replace C2 : Hid (∀ w, Calls Tryz.prog 171 #[.int .u8 (xq.toNat : Int), .int .u8 (xr.toNat : Int)] w fun e w' => e = .returned (.bool true) ∧ w' = w) := Lib.hid (fun w => by have := C2.out w; rwa [hlv] at this)
            have HLV := Lib.hid hlv
            clear hlv
            obtain ⟨g', rfl⟩ : ∃ g', gk = g' + 1 := ⟨gk - 1, by have := HC.out; omega⟩
            have HM : Hid (hi - c2 ≤ g') := Lib.hid (by have := HC.out; have := HC2.out; omega)
            have HPQ : Hid (q ≠ t) := Lib.hid (by have := HC.out; have := HP.out; have := HP2.out; have := HQ.out; omega)
            have HE : Hid (siftDown ltB hi first c2 (swp dk q t) = siftDown ltB hi first lo d) := Lib.hid (by
              rw [← HO.out, siftDown.eq_def ltB hi first r dk, dif_neg (by have := HC.out; omega), if_pos (by rw [HC.out, HP.out, HP2.out, XP.out, XR.out, HL1.out]; simpa using hc2), HPR.out, HQ.out, XQ.out, XR.out, HLV.out, if_neg (by simp), dif_pos (by omega), HCC.out])
            go_wp2_with fail
            go_quiet (first | (go_at_call 171; refine Calls.quiet_of_same (C1.out _)))
            go_wp2_with fail
            obtain ⟨w2, hw2⟩ : ∃ w2, wr.drewN nq = w2 := ⟨_, rfl⟩
            have HK2 : Hid (Holds encB w2 blk off dk) := Lib.hid (hw2 ▸ holds_drewN HK.out nq)
            have HB2 : Hid (OnlyAt blk w.heap.size w w2) := Lib.hid (hw2 ▸ only_drewN HB.out nq)
            rw [hw2]
            have cp2 : w2.cell? ⟨blk, off + t, none⟩ = some (.int .u8 (xr.toNat : Int)) := by have := (HK2.out t (by have := HS.out; omega)).1; rw [XR.out] at this; exact this
            have cq2 : w2.cell? ⟨blk, off + q, none⟩ = some (.int .u8 (xq.toNat : Int)) := by have := (HK2.out q (by have := HS.out; omega)).1; rw [XQ.out] at this; exact this
            have fp2 := (HK2.out t (by have := HS.out; omega)).2
            have fq2 := (HK2.out q (by have := HS.out; omega)).2
            clear hw2 HK HB cp cq fp fq cr fr
            go_wp2_with fail
            go_quiet (first | (go_at_call 171; refine Calls.quiet_of_same (C2.out _)))
            go_wp2
            go_region
            all_goals
              go_wp2
              go_roundg g'
              case measure => omega
              case rel =>
                refine ⟨c2, swp dk q t, iv (by omega), by omega, HM.out, Lib.hid (by rw [size_swp]; exact HS.out), Lib.hid ?_, Lib.hid ?_, HE⟩
                · have := swap_holds HK2.out (i := q) (j := t) (by have := HS.out; omega) (by have := HS.out; omega) HPQ.out
                  rw [XR.out, XQ.out] at this
                  exact this
                · first | exact ((only_drewN HB2.out _).set _ _).set _ _ | exact (((only_drewN HB2.out _).set _ _).set _ _).drew
        | false =>
          have C1 : Hid (∀ w, Calls Tryz.prog 171 #[.int .u8 (xp.toNat : Int), .int .u8 (xr.toNat : Int)] w fun e w' => e = .returned (.bool false) ∧ w' = w) := Lib.hid (fun w => by have := C.out xp xr w; rwa [hl1] at this)
          have HL1 := Lib.hid hl1
          clear hl1
          have C2 := Lib.hid (fun w => C.out xq xp w)
          cases hlv : ltB xq xp with
          | false =>
            replace C2 : Hid (∀ w, Calls Tryz.prog 171 #[.int .u8 (xq.toNat : Int), .int .u8 (xp.toNat : Int)] w fun e w' => e = .returned (.bool false) ∧ w' = w) := Lib.hid (fun w => by have := C2.out w; rwa [hlv] at this)
            have HLV := Lib.hid hlv
            clear hlv
            have HE : Hid (siftDown ltB hi first lo d = dk) := Lib.hid (by
              rw [← HO.out, siftDown.eq_def ltB hi first r dk, dif_neg (by have := HC.out; omega), if_neg (by rw [HC.out, HP.out, HP2.out, XP.out, XR.out, HL1.out]; simp), HC.out, HP.out, HQ.out, XQ.out, XP.out, HLV.out]
              rfl)
            go_wp2_with fail
            go_quiet (first | (go_at_call 171; refine Calls.quiet_of_same (C1.out _)))
            go_wp2_with fail
            obtain ⟨w2, hw2⟩ : ∃ w2, wr.drewN nq = w2 := ⟨_, rfl⟩
            have HK2 : Hid (Holds encB w2 blk off dk) := Lib.hid (hw2 ▸ holds_drewN HK.out nq)
            have HB2 : Hid (OnlyAt blk w.heap.size w w2) := Lib.hid (hw2 ▸ only_drewN HB.out nq)
            rw [hw2]
            have cp2 : w2.cell? ⟨blk, off + p, none⟩ = some (.int .u8 (xp.toNat : Int)) := by have := (HK2.out p (by have := HS.out; omega)).1; rw [XP.out] at this; exact this
            have cq2 : w2.cell? ⟨blk, off + q, none⟩ = some (.int .u8 (xq.toNat : Int)) := by have := (HK2.out q (by have := HS.out; omega)).1; rw [XQ.out] at this; exact this
            have fp2 := (HK2.out p (by have := HS.out; omega)).2
            have fq2 := (HK2.out q (by have := HS.out; omega)).2
            clear hw2 HK HB cp cq fp fq cr fr
            go_wp2_with fail
            go_quiet (first | (go_at_call 171; refine Calls.quiet_of_same (C2.out _)))
            go_wp2
            try rw [Exit.noGoto_ret]
            first | go_end0 | (refine bodyPost_ret (results_none rfl _ _ _) rfl ?_)
            exact ⟨rfl, by rw [HE.out]; exact HK2.out, only_drewN HB2.out _⟩
          | true =>
            replace C2 : Hid (∀ w, Calls Tryz.prog 171 #[.int .u8 (xq.toNat : Int), .int .u8 (xp.toNat : Int)] w fun e w' => e = .returned (.bool true) ∧ w' = w) := Lib.hid (fun w => by have := C2.out w; rwa [hlv] at this)
            have HLV := Lib.hid hlv
            clear hlv
            obtain ⟨g', rfl⟩ : ∃ g', gk = g' + 1 := ⟨gk - 1, by have := HC.out; omega⟩
            have HM : Hid (hi - c ≤ g') := Lib.hid (by have := HC.out; have := HC2.out; omega)
            have HPQ : Hid (q ≠ p) := Lib.hid (by have := HC.out; have := HP.out; have := HP2.out; have := HQ.out; omega)
            have HE : Hid (siftDown ltB hi first c (swp dk q p) = siftDown ltB hi first lo d) := Lib.hid (by
              rw [← HO.out, siftDown.eq_def ltB hi first r dk, dif_neg (by have := HC.out; omega), if_neg (by rw [HC.out, HP.out, HP2.out, XP.out, XR.out, HL1.out]; simp), HC.out, HP.out, HQ.out, XQ.out, XP.out, HLV.out]
              rfl)
            go_wp2_with fail
            go_quiet (first | (go_at_call 171; refine Calls.quiet_of_same (C1.out _)))
            go_wp2_with fail
            obtain ⟨w2, hw2⟩ : ∃ w2, wr.drewN nq = w2 := ⟨_, rfl⟩
            have HK2 : Hid (Holds encB w2 blk off dk) := Lib.hid (hw2 ▸ holds_drewN HK.out nq)
            have HB2 : Hid (OnlyAt blk w.heap.size w w2) := Lib.hid (hw2 ▸ only_drewN HB.out nq)
            rw [hw2]
            have cp2 : w2.cell? ⟨blk, off + p, none⟩ = some (.int .u8 (xp.toNat : Int)) := by have := (HK2.out p (by have := HS.out; omega)).1; rw [XP.out] at this; exact this
            have cq2 : w2.cell? ⟨blk, off + q, none⟩ = some (.int .u8 (xq.toNat : Int)) := by have := (HK2.out q (by have := HS.out; omega)).1; rw [XQ.out] at this; exact this
            have fp2 := (HK2.out p (by have := HS.out; omega)).2
            have fq2 := (HK2.out q (by have := HS.out; omega)).2
            clear hw2 HK HB cp cq fp fq cr fr
            go_wp2_with fail
            go_quiet (first | (go_at_call 171; refine Calls.quiet_of_same (C2.out _)))
            go_wp2
            go_region
            all_goals
              go_wp2
              go_roundg g'
              case measure => omega
              case rel =>
                refine ⟨c, swp dk q p, rfl, by omega, HM.out, Lib.hid (by rw [size_swp]; exact HS.out), Lib.hid ?_, Lib.hid ?_, HE⟩
                · have := swap_holds HK2.out (i := q) (j := p) (by have := HS.out; omega) (by have := HS.out; omega) HPQ.out
                  rw [XP.out, XQ.out] at this
                  exact this
                · first | exact ((only_drewN HB2.out _).set _ _).set _ _ | exact (((only_drewN HB2.out _).set _ _).set _ _).drew
      · have z2 : ¬ ((c : Int) + 1 < (hi : Int)) := by omega
        have hd2 : decide ((c : Int) + 1 < (hi : Int)) = false := decide_eq_false z2
        obtain ⟨p, hp⟩ : ∃ p, first + c = p := ⟨_, rfl⟩
        obtain ⟨q, hq⟩ : ∃ q, first + r = q := ⟨_, rfl⟩
        have e3 : (first : Int) + (c : Int) = (p : Int) := by omega
        have e4 : (first : Int) + (r : Int) = (q : Int) := by omega
        have e5 : IntKind.i64.wrap (p : Int) = (p : Int) := by rw [IntKind.wrap_i64]; omega
        have e6 : IntKind.i64.wrap (q : Int) = (q : Int) := by rw [IntKind.wrap_i64]; omega
        have hpn : p < n := by omega
        have hqn : q < n := by omega
        have p1 : (p : Int) < (n : Int) := by omega
        have q1 : (q : Int) < (n : Int) := by omega
        have p0 : (0 : Int) ≤ (p : Int) := by omega
        have q0 : (0 : Int) ≤ (q : Int) := by omega
        have cp := (HK.out p (by have := HS.out; omega)).1
        have cq := (HK.out q (by have := HS.out; omega)).1
        have fp := (HK.out p (by have := HS.out; omega)).2
        have fq := (HK.out q (by have := HS.out; omega)).2
        obtain ⟨xp, hxp⟩ : ∃ x, dk[p]! = x := ⟨_, rfl⟩
        obtain ⟨xq, hxq⟩ : ∃ x, dk[q]! = x := ⟨_, rfl⟩
        rw [hxp] at cp
        rw [hxq] at cq
        unfold encB at cp cq
        have XP := Lib.hid hxp
        have XQ := Lib.hid hxq
        have C1 := Lib.hid (fun w => C.out xq xp w)
        have HC := Lib.hid hc
        have HP := Lib.hid hp
        have HQ := Lib.hid hq
        clear hxp hxq hc hp hq
        cases hlv : ltB xq xp with
        | false =>
          replace C1 : Hid (∀ w, Calls Tryz.prog 171 #[.int .u8 (xq.toNat : Int), .int .u8 (xp.toNat : Int)] w fun e w' => e = .returned (.bool false) ∧ w' = w) := Lib.hid (fun w => by have := C1.out w; rwa [hlv] at this)
          have HLV := Lib.hid hlv
          clear hlv
          have HE : Hid (siftDown ltB hi first lo d = dk) := Lib.hid (by
            rw [← HO.out, siftDown.eq_def, dif_neg (by have := HC.out; omega), if_neg (by have := HC.out; simp; omega), HC.out, HP.out, HQ.out, XQ.out, XP.out, HLV.out]
            rfl)
          go_wp2_with fail
          go_quiet (fail)
          go_wp2_with fail
          obtain ⟨w2, hw2⟩ : ∃ w2, wr.drewN nq = w2 := ⟨_, rfl⟩
          have HK2 : Hid (Holds encB w2 blk off dk) := Lib.hid (hw2 ▸ holds_drewN HK.out nq)
          have HB2 : Hid (OnlyAt blk w.heap.size w w2) := Lib.hid (hw2 ▸ only_drewN HB.out nq)
          rw [hw2]
          have cp2 : w2.cell? ⟨blk, off + p, none⟩ = some (.int .u8 (xp.toNat : Int)) := by have := (HK2.out p (by have := HS.out; omega)).1; rw [XP.out] at this; exact this
          have cq2 : w2.cell? ⟨blk, off + q, none⟩ = some (.int .u8 (xq.toNat : Int)) := by have := (HK2.out q (by have := HS.out; omega)).1; rw [XQ.out] at this; exact this
          have fp2 := (HK2.out p (by have := HS.out; omega)).2
          have fq2 := (HK2.out q (by have := HS.out; omega)).2
          clear hw2 HK HB cp cq fp fq
          go_wp2_with fail
          go_quiet (first | (go_at_call 171; refine Calls.quiet_of_same (C1.out _)))
          go_wp2
          try rw [Exit.noGoto_ret]
          first | go_end0 | (refine bodyPost_ret (results_none rfl _ _ _) rfl ?_)
          exact ⟨rfl, by rw [HE.out]; exact HK2.out, only_drewN HB2.out _⟩
        | true =>
          replace C1 : Hid (∀ w, Calls Tryz.prog 171 #[.int .u8 (xq.toNat : Int), .int .u8 (xp.toNat : Int)] w fun e w' => e = .returned (.bool true) ∧ w' = w) := Lib.hid (fun w => by have := C1.out w; rwa [hlv] at this)
          have HLV := Lib.hid hlv
          clear hlv
          obtain ⟨g', rfl⟩ : ∃ g', gk = g' + 1 := ⟨gk - 1, by have := HC.out; omega⟩
          have HM : Hid (hi - c ≤ g') := Lib.hid (by have := HC.out; omega)
          have HPQ : Hid (q ≠ p) := Lib.hid (by have := HC.out; have := HP.out; have := HQ.out; omega)
          have HE : Hid (siftDown ltB hi first c (swp dk q p) = siftDown ltB hi first lo d) := Lib.hid (by
            rw [← HO.out, siftDown.eq_def ltB hi first r dk, dif_neg (by have := HC.out; omega), if_neg (by have := HC.out; simp; omega), HC.out, HP.out, HQ.out, XQ.out, XP.out, HLV.out]
            rfl)
          go_wp2_with fail
          go_quiet (fail)
          go_wp2_with fail
          obtain ⟨w2, hw2⟩ : ∃ w2, wr.drewN nq = w2 := ⟨_, rfl⟩
          have HK2 : Hid (Holds encB w2 blk off dk) := Lib.hid (hw2 ▸ holds_drewN HK.out nq)
          have HB2 : Hid (OnlyAt blk w.heap.size w w2) := Lib.hid (hw2 ▸ only_drewN HB.out nq)
          rw [hw2]
          have cp2 : w2.cell? ⟨blk, off + p, none⟩ = some (.int .u8 (xp.toNat : Int)) := by have := (HK2.out p (by have := HS.out; omega)).1; rw [XP.out] at this; exact this
          have cq2 : w2.cell? ⟨blk, off + q, none⟩ = some (.int .u8 (xq.toNat : Int)) := by have := (HK2.out q (by have := HS.out; omega)).1; rw [XQ.out] at this; exact this
          have fp2 := (HK2.out p (by have := HS.out; omega)).2
          have fq2 := (HK2.out q (by have := HS.out; omega)).2
          clear hw2 HK HB cp cq fp fq
          go_wp2_with fail
          go_quiet (first | (go_at_call 171; refine Calls.quiet_of_same (C1.out _)))
          go_wp2
          go_region
          all_goals
            go_wp2
            go_roundg g'
            case measure => omega
            case rel =>
              refine ⟨c, swp dk q p, rfl, by omega, HM.out, Lib.hid (by rw [size_swp]; exact HS.out), Lib.hid ?_, Lib.hid ?_, HE⟩
              · have := swap_holds HK2.out (i := q) (j := p) (by have := HS.out; omega) (by have := HS.out; omega) HPQ.out
                rw [XP.out, XQ.out] at this
                exact this
              · first | exact ((only_drewN HB2.out _).set _ _).set _ _ | exact (((only_drewN HB2.out _).set _ _).set _ _).drew
end Go.Proofs.YtnpgmekgmelamaaGreat

namespace Go.Proofs.YtnpgmekgmelamaaGreat
open Go.RowKit Go.Shelf Go.Sort

theorem swap_holds2 {W : World} {blk off : Nat} {d : Array UInt8} (h : Holds encB W blk off d) {i j : Nat} (hi : i < d.size) (hj : j < d.size) :
    Holds encB ((W.setCell ⟨blk, off + i, none⟩ (encB d[j]!)).setCell ⟨blk, off + j, none⟩ (encB d[i]!)) blk off (swp d i j) := by
  by_cases hij : i = j
  · subst hij
    intro k hk
    rw [size_swp] at hk
    obtain ⟨ck, fk⟩ := h k hk
    refine ⟨?_, by rw [World.frozen?_setCell, World.frozen?_setCell]; exact fk⟩
    by_cases e : k = i
    · subst e
      have hc1 : (W.setCell ⟨blk, off + k, none⟩ (encB d[k]!)).cell? ⟨blk, off + k, none⟩ = some (encB d[k]!) := World.cell?_setCell_same _ _ _ ck
      rw [World.cell?_setCell_same _ _ _ hc1, swp_right d k k hk]
    · have ne : (⟨blk, off + i, none⟩ : Addr) ≠ ⟨blk, off + k, none⟩ := fun e2 => e (by injection e2 with _ e2; omega)
      rw [World.cell?_setCell_other _ _ _ _ ne, World.cell?_setCell_other _ _ _ _ ne, ck, swp_other d i i k e e]
  · exact swap_holds h hi hj hij
theorem size_sift (hi first : Nat) : ∀ (g root : Nat) (d : Array UInt8), hi - root ≤ g → (siftDown ltB hi first root d).size = d.size
  | 0, root, d, h => by rw [siftDown.eq_def, dif_pos (by omega)]
  | g + 1, root, d, h => by
    rw [siftDown.eq_def]
    split
    · rfl
    · split
      · split
        · rfl
        · split
          · rw [size_sift hi first g _ _ (by omega), size_swp]
          · rfl
      · split
        · rfl
        · rw [size_sift hi first g _ _ (by omega), size_swp]

set_option maxRecDepth 100000 in
set_option maxHeartbeats 2000000 in
/-- slices.heapSortOrdered. -/
theorem heap_any (blk off cap a b : Nat) (d : Array UInt8) (w : World) (hH : Holds encB w blk off d) (hab : a < b) (hb : b ≤ d.size) (hsz : d.size ≤ 1000000) :
    Calls Tryz.prog 166 #[.slice (some ⟨blk, off, none⟩) d.size cap, .int .i64 (a : Int), .int .i64 (b : Int)] w fun e w' => e = .returned (.tuple #[]) ∧ Holds encB w' blk off (heapSort ltB d a b) ∧ OnlyAt blk w.heap.size w w' := by
  obtain ⟨n, hn⟩ : ∃ n, d.size = n := ⟨_, rfl⟩
  have HH : Hid (Holds encB w blk off d) := hH
  have HN : Hid (d.size = n) := hn
  rw [hn] at hb hsz
  rw [hn]
  clear hH hn
  obtain ⟨hi, hhi⟩ : ∃ hi, b - a = hi := ⟨_, rfl⟩
  have e1 : (b : Int) - (a : Int) = (hi : Int) := by omega
  have e2 : IntKind.i64.wrap (hi : Int) = (hi : Int) := by rw [IntKind.wrap_i64]; omega
  have C : Hid (∀ (W : World) (dk : Array UInt8) (lo h : Nat), Holds encB W blk off dk → dk.size = n → a + h ≤ n → lo ≤ 1000000 → Calls Tryz.prog 176 #[.slice (some ⟨blk, off, none⟩) n cap, .int .i64 (lo : Int), .int .i64 (h : Int), .int .i64 (a : Int)] W fun e w' => e = .returned (.tuple #[]) ∧ Holds encB w' blk off (siftDown ltB h a lo dk) ∧ OnlyAt blk W.heap.size W w') := Lib.hid (fun W dk lo h h1 h2 h3 h4 => by
    have := sift_any blk off cap lo h a dk W h1 (by omega) h4 (by omega)
    rwa [h2] at this)
  go_enter Tryz.func166, Tryz.ntmps166
  go_wp2
  go_loopg [9] ((hi - 1) / 2 + 1) (fun gk s9 wr => ∃ (z : Int) (dk : Array UInt8), s9 = .int .i64 z ∧ z = (gk : Int) - 1 ∧ gk ≤ (hi - 1) / 2 + 1 ∧ Hid (dk.size = n) ∧ Hid (Holds encB wr blk off dk) ∧ Hid (OnlyAt blk w.heap.size w wr) ∧ Hid (heapBuild ltB hi a gk dk = heapBuild ltB hi a ((hi - 1) / 2 + 1) d))
  case atStart => exact ⟨_, d, rfl, by omega, Nat.le_refl _, HN, HH, Lib.hid (OnlyAt.refl _ _ _), Lib.hid rfl⟩
  case round =>
    obtain ⟨z, dk, rfl, hz, hgk, HS, HK, HB, HO⟩ := hrel
    clear HH
    cases gk with
    | succ g' =>
      have hz' : z = (g' : Int) := by omega
      subst hz'
      have y0 : (0 : Int) ≤ (g' : Int) := by omega
      have C1 : Hid (Calls Tryz.prog 176 #[.slice (some ⟨blk, off, none⟩) n cap, .int .i64 (g' : Int), .int .i64 (hi : Int), .int .i64 (a : Int)] wr fun e w' => e = .returned (.tuple #[]) ∧ Holds encB w' blk off (siftDown ltB hi a g' dk) ∧ OnlyAt blk wr.heap.size wr w') := Lib.hid (C.out wr dk g' hi HK.out HS.out (by omega) (by omega))
      clear hz
      go_wp2_with fail
      refine C1.out.mono ?_
      rintro e w2 ⟨rfl, hK2, hB2⟩
      have HB2 : Hid (OnlyAt blk w.heap.size w w2) := Lib.hid (HB.out.trans (hB2.mono HB.out.size))
      have HK2 : Hid (Holds encB w2 blk off (siftDown ltB hi a g' dk)) := Lib.hid hK2
      have HS2 : Hid ((siftDown ltB hi a g' dk).size = n) := Lib.hid (by rw [size_sift hi a (hi - g') g' dk (Nat.le_refl _)]; exact HS.out)
      clear hK2 hB2
      go_wp2
      go_roundg g'
      case measure => omega
      case rel => exact ⟨(g' : Int) - 1, _, by go_num, rfl, by omega, HS2, HK2, HB2, HO⟩
    | zero =>
      have hz' : z = -1 := by omega
      subst hz'
      clear hz
      go_wp2_with fail
      have HO' : Hid (heapPop ltB a hi dk = heapSort ltB d a b) := Lib.hid (by
        have := HO.out
        unfold heapBuild at this
        rw [this]
        unfold heapSort
        rw [hhi]
        rfl)
      go_loopg [10] hi (fun gk s10 wr2 => ∃ (z : Int) (dj : Array UInt8), s10 = .int .i64 z ∧ z = (gk : Int) - 1 ∧ gk ≤ hi ∧ Hid (dj.size = n) ∧ Hid (Holds encB wr2 blk off dj) ∧ Hid (OnlyAt blk w.heap.size w wr2) ∧ Hid (heapPop ltB a gk dj = heapSort ltB d a b))
      case atStart => exact ⟨_, dk, rfl, by omega, Nat.le_refl _, HS, HK, HB, HO'⟩
      case round =>
        clear HS HK HB HO HO'
        obtain ⟨z, dj, rfl, hz, hgk, HS, HK, HB, HO⟩ := hrel
        cases gk with
        | succ g' =>
          have hz' : z = (g' : Int) := by omega
          subst hz'
          obtain ⟨p, hp⟩ : ∃ p, a + g' = p := ⟨_, rfl⟩
          have y0 : (0 : Int) ≤ (g' : Int) := by omega
          have e3 : (a : Int) + (g' : Int) = (p : Int) := by omega
          have e4 : IntKind.i64.wrap (p : Int) = (p : Int) := by rw [IntKind.wrap_i64]; omega
          have p0 : (0 : Int) ≤ (p : Int) := by omega
          have p1 : (p : Int) < (n : Int) := by omega
          have a0 : (0 : Int) ≤ (a : Int) := by omega
          have a1 : (a : Int) < (n : Int) := by omega
          have hpn : p < n := by omega
          have han : a < n := by omega
          have ca := (HK.out a (by have := HS.out; omega)).1
          have cp := (HK.out p (by have := HS.out; omega)).1
          have fa := (HK.out a (by have := HS.out; omega)).2
          have fp := (HK.out p (by have := HS.out; omega)).2
          obtain ⟨xa, hxa⟩ : ∃ x, dj[a]! = x := ⟨_, rfl⟩
          obtain ⟨xp, hxp⟩ : ∃ x, dj[p]! = x := ⟨_, rfl⟩
          rw [hxa] at ca
          rw [hxp] at cp
          unfold encB at ca cp
          have cs : (wr.setCell ⟨blk, off + a, none⟩ (.int .u8 (xp.toNat : Int))).cell? ⟨blk, off + p, none⟩ = some (.int .u8 (xp.toNat : Int)) := by
            by_cases e : a = p
            · rw [e] at ca ⊢
              exact World.cell?_setCell_same _ _ _ ca
            · rw [World.cell?_setCell_other _ _ _ _ (fun e2 => e (by injection e2 with _ e2; omega))]
              exact cp
          have HW : Hid (Holds encB ((wr.setCell ⟨blk, off + a, none⟩ (.int .u8 (xp.toNat : Int))).setCell ⟨blk, off + p, none⟩ (.int .u8 (xa.toNat : Int))) blk off (swp dj a p)) := Lib.hid (by
            have := swap_holds2 HK.out (i := a) (j := p) (by have := HS.out; omega) (by have := HS.out; omega)
            rw [hxa, hxp] at this
            exact this)
          have HWd : Hid (Holds encB (((wr.setCell ⟨blk, off + a, none⟩ (.int .u8 (xp.toNat : Int))).setCell ⟨blk, off + p, none⟩ (.int .u8 (xa.toNat : Int))).drew) blk off (swp dj a p)) := Lib.hid (holds_drewN HW.out 1)
          have HS2 : Hid ((swp dj a p).size = n) := Lib.hid (by rw [size_swp]; exact HS.out)
          have HS3 : Hid ((siftDown ltB g' a 0 (swp dj a p)).size = n) := Lib.hid (by rw [size_sift g' a (g' - 0) 0 _ (Nat.le_refl _)]; exact HS2.out)
          have HO2 : Hid (heapPop ltB a g' (siftDown ltB g' a 0 (swp dj a p)) = heapSort ltB d a b) := Lib.hid (by rw [← HO.out, ← hp]; rfl)
          clear hz hxa hxp hp
          go_wp2_with fail
          go_region
          all_goals
            go_wp2_with fail
            refine (C.out _ (swp dj a p) 0 g' HWd.out HS2.out (by omega) (by omega)).mono ?_
            rintro e w2 ⟨rfl, hK2, hB2⟩
            have HB2 : Hid (OnlyAt blk w.heap.size w w2) := Lib.hid (by
              first
                | exact (((HB.out.set _ _).set _ _).drew).trans (hB2.mono (((HB.out.set _ _).set _ _).drew).size)
                | exact ((HB.out.set _ _).set _ _).trans (hB2.mono ((HB.out.set _ _).set _ _).size))
            have HK2 := Lib.hid hK2
            clear hK2 hB2
            go_wp2
            go_roundg g'
            case measure => omega
            case rel => exact ⟨(g' : Int) - 1, _, by go_num, rfl, by omega, HS3, HK2, HB2, HO2⟩
        | zero =>
          have hz' : z = -1 := by omega
          subst hz'
          clear hz
          go_wp2_with fail
          go_end0
          exact ⟨rfl, HO.out ▸ HK.out, HB.out⟩
end Go.Proofs.YtnpgmekgmelamaaGreat

namespace Go.Proofs.YtnpgmekgmelamaaGreat
open Go.RowKit Go.Shelf Go.Sort

/-- A count at cell 0 of a block. -/
def CntAt (W : World) (sb : Nat) (s : Nat) : Prop := W.cell? ⟨sb, 0, none⟩ = some (.int .i64 (s : Int)) ∧ W.frozen? ⟨sb, 0, none⟩ = false
theorem holds_only {blk off sb : Nat} {d : Array UInt8} {w w' : World} (h : Holds encB w blk off d) (hlt : blk < w.heap.size) (hne : blk ≠ sb) (ho : OnlyAt sb w.heap.size w w') : Holds encB w' blk off d := by
  intro k hk
  obtain ⟨h1, h2⟩ := h k hk
  have e : w'.heap[blk]? = w.heap[blk]? := ho.block blk hlt hne
  exact ⟨by rw [World.cell?_of_block (w := w) e]; exact h1, by rw [World.frozen?_of_block (w := w) e]; exact h2⟩
theorem cnt_set {W : World} {sb s : Nat} (h : CntAt W sb s) (q : Nat) (t : Nat) : CntAt ((W.drewN q).setCell ⟨sb, 0, none⟩ (.int .i64 (t : Int))) sb t := by
  refine ⟨World.cell?_setCell_same _ _ _ (show (W.drewN q).cell? _ = _ from h.1), ?_⟩
  rw [World.frozen?_setCell]
  exact h.2

set_option maxRecDepth 100000 in
set_option maxHeartbeats 2000000 in
/-- slices.order2Ordered. -/
theorem order2_any (blk off cap a b sb s : Nat) (d : Array UInt8) (w : World) (hH : Holds encB w blk off d) (ha : a < d.size) (hb : b < d.size) (hc : CntAt w sb s) (hs : s ≤ 1000) (_ : d.size ≤ 1000000) :
    Calls Tryz.prog 180 #[.slice (some ⟨blk, off, none⟩) d.size cap, .int .i64 (a : Int), .int .i64 (b : Int), .pointer (some ⟨sb, 0, none⟩)] w fun e w' => e = .returned (.tuple #[.int .i64 ((order2 ltB d a b s).1 : Int), .int .i64 ((order2 ltB d a b s).2.1 : Int)]) ∧ CntAt w' sb (order2 ltB d a b s).2.2 ∧ OnlyAt sb w.heap.size w w' := by
  obtain ⟨n, hn⟩ : ∃ n, d.size = n := ⟨_, rfl⟩
  have ca := (hH a ha).1
  have cb := (hH b hb).1
  rw [hn] at ha hb
  rw [hn]
  obtain ⟨xa, hxa⟩ : ∃ x, d[a]! = x := ⟨_, rfl⟩
  obtain ⟨xb, hxb⟩ : ∃ x, d[b]! = x := ⟨_, rfl⟩
  rw [hxa] at ca
  rw [hxb] at cb
  unfold encB at ca cb
  have C := less_any xb xa
  have HC := Lib.hid hc
  obtain ⟨k0, k1⟩ := hc
  have a0 : (0 : Int) ≤ (a : Int) := by omega
  have a1 : (a : Int) < (n : Int) := by omega
  have b0 : (0 : Int) ≤ (b : Int) := by omega
  have b1 : (b : Int) < (n : Int) := by omega
  cases hlt : ltB xb xa with
  | true =>
    have e : order2 ltB d a b s = (b, a, s + 1) := by unfold order2; rw [hxa, hxb, hlt]; rfl
    rw [e]
    rw [hlt] at C
    replace C := Lib.hid C
    clear hlt e hxa hxb hn hH
    go_enter Tryz.func180, Tryz.ntmps180
    go_wp2_with fail
    go_quiet (first | (go_at_call 171; refine Calls.quiet_of_same (C.out _)))
    go_wp2
    refine bodyPost_ret (v := .tuple #[.int .i64 (b : Int), .int .i64 (a : Int)]) (by simp [results, Tryz.results180, go_sem]) rfl ?_
    refine ⟨rfl, ?_, ?_⟩
    · have := cnt_set HC.out (nq + 1) (s + 1)
      first | exact this | (push_cast at this; exact this)
    · first | exact (only_drewN (OnlyAt.refl _ _ _) _).set 0 _ | exact (OnlyAt.refl _ _ _).set 0 _
  | false =>
    have e : order2 ltB d a b s = (a, b, s) := by unfold order2; rw [hxa, hxb, hlt]; rfl
    rw [e]
    rw [hlt] at C
    replace C := Lib.hid C
    clear hlt e hxa hxb hn hH
    go_enter Tryz.func180, Tryz.ntmps180
    go_wp2_with fail
    go_quiet (first | (go_at_call 171; refine Calls.quiet_of_same (C.out _)))
    go_wp2
    refine bodyPost_ret (v := .tuple #[.int .i64 (a : Int), .int .i64 (b : Int)]) (by simp [results, Tryz.results180, go_sem]) rfl ?_
    exact ⟨rfl, HC.out, only_drewN (OnlyAt.refl _ _ _) _⟩

theorem order2_or (d : Array UInt8) (a b s : Nat) : ((order2 ltB d a b s).1 = a ∧ (order2 ltB d a b s).2.1 = b ∨ (order2 ltB d a b s).1 = b ∧ (order2 ltB d a b s).2.1 = a) ∧ s ≤ (order2 ltB d a b s).2.2 ∧ (order2 ltB d a b s).2.2 ≤ s + 1 := by
  unfold order2
  split
  · exact ⟨.inr ⟨rfl, rfl⟩, Nat.le_succ _, Nat.le_refl _⟩
  · exact ⟨.inl ⟨rfl, rfl⟩, Nat.le_refl _, Nat.le_succ _⟩

/-- What holds of the row and the count between two calls. -/
structure MedAt (blk off sb : Nat) (d : Array UInt8) (s : Nat) (w0 W : World) : Prop where
  row : Holds encB W blk off d
  cnt : CntAt W sb s
  only : OnlyAt sb w0.heap.size w0 W
theorem order2_from {blk off sb s : Nat} {d : Array UInt8} {w0 W : World} (h : MedAt blk off sb d s w0 W) (hlt : blk < w0.heap.size) (hne : blk ≠ sb) (cap : Nat) {a b : Nat} (ha : a < d.size) (hb : b < d.size) (hs : s ≤ 1000) (hsz : d.size ≤ 1000000) :
    Calls Tryz.prog 180 #[.slice (some ⟨blk, off, none⟩) d.size cap, .int .i64 (a : Int), .int .i64 (b : Int), .pointer (some ⟨sb, 0, none⟩)] W fun e w' => ∃ (x y s' : Nat), e = .returned (.tuple #[.int .i64 (x : Int), .int .i64 (y : Int)]) ∧ order2 ltB d a b s = (x, y, s') ∧ x < d.size ∧ y < d.size ∧ s' ≤ s + 1 ∧ MedAt blk off sb d s' w0 w' := by
  have hz := h.only.size
  refine (order2_any blk off cap a b sb s d W h.row ha hb h.cnt hs hsz).mono ?_
  rintro e w' ⟨rfl, h1, h2⟩
  obtain ⟨h3, _, h4⟩ := order2_or d a b s
  refine ⟨_, _, _, rfl, rfl, ?_, ?_, h4, holds_only h.row (by omega) hne h2, h1, h.only.trans (h2.mono h.only.size)⟩
  · rcases h3 with ⟨e1, _⟩ | ⟨e1, _⟩ <;> rw [e1] <;> assumption
  · rcases h3 with ⟨_, e1⟩ | ⟨_, e1⟩ <;> rw [e1] <;> assumption

set_option maxRecDepth 100000 in
set_option maxHeartbeats 2000000 in
/-- slices.medianOrdered. -/
theorem median_any (blk off cap a b c sb s : Nat) (d : Array UInt8) (w0 w : World) (h : MedAt blk off sb d s w0 w) (hlt : blk < w0.heap.size) (hne : blk ≠ sb) (ha : a < d.size) (hb : b < d.size) (hc : c < d.size) (hs : s ≤ 900) (hsz : d.size ≤ 1000000) :
    Calls Tryz.prog 178 #[.slice (some ⟨blk, off, none⟩) d.size cap, .int .i64 (a : Int), .int .i64 (b : Int), .int .i64 (c : Int), .pointer (some ⟨sb, 0, none⟩)] w fun e w' => ∃ (m s' : Nat), e = .returned (.int .i64 (m : Int)) ∧ median ltB d a b c s = (m, s') ∧ m < d.size ∧ s' ≤ s + 3 ∧ MedAt blk off sb d s' w0 w' := by
  have C := Lib.hid fun (W : World) (a b s : Nat) (h : MedAt blk off sb d s w0 W) (ha : a < d.size) (hb : b < d.size) (hs : s ≤ 1000) => order2_from h hlt hne cap ha hb hs hsz
  obtain ⟨n, hn⟩ : ∃ n, d.size = n := ⟨_, rfl⟩
  rw [hn] at C ha hb hc
  rw [hn]
  obtain ⟨T, hT⟩ : ∃ T, median ltB d a b c s = T := ⟨_, rfl⟩
  rw [hT]
  have HT := Lib.hid hT
  clear hT hn
  go_enter Tryz.func178, Tryz.ntmps178
  go_wp2_with fail
  refine (C.out _ _ _ _ h ha hb (by omega)).mono ?_
  rintro e w1 ⟨x1, y1, s1, rfl, e1, hx1, hy1, hs1, h1⟩
  go_wp2_with fail
  refine (C.out _ _ _ _ h1 hy1 hc (by omega)).mono ?_
  rintro e w2 ⟨x2, y2, s2, rfl, e2, hx2, hy2, hs2, h2⟩
  go_wp2_with fail
  refine (C.out _ _ _ _ h2 hx1 hx2 (by omega)).mono ?_
  rintro e w3 ⟨x3, y3, s3, rfl, e3, hx3, hy3, hs3, h3⟩
  have HE : Hid (T = (y3, s3)) := Lib.hid (by
    rw [← HT.out]
    unfold median
    rw [e1]
    dsimp only
    rw [e2]
    dsimp only
    rw [e3])
  clear C e1 e2 e3 h1 h2 h
  go_wp2
  go_ret
  exact ⟨y3, s3, rfl, HE.out, hy3, by omega, h3⟩
set_option maxRecDepth 100000 in
set_option maxHeartbeats 2000000 in
/-- slices.medianAdjacentOrdered. -/
theorem adjacent_any (blk off cap a sb s : Nat) (d : Array UInt8) (w0 w : World) (h : MedAt blk off sb d s w0 w) (hlt : blk < w0.heap.size) (hne : blk ≠ sb) (ha : 1 ≤ a) (ha2 : a + 1 < d.size) (hs : s ≤ 900) (hsz : d.size ≤ 1000000) :
    Calls Tryz.prog 177 #[.slice (some ⟨blk, off, none⟩) d.size cap, .int .i64 (a : Int), .pointer (some ⟨sb, 0, none⟩)] w fun e w' => ∃ (m s' : Nat), e = .returned (.int .i64 (m : Int)) ∧ medianAdjacent ltB d a s = (m, s') ∧ m < d.size ∧ s' ≤ s + 3 ∧ MedAt blk off sb d s' w0 w' := by
  have C := Lib.hid (median_any blk off cap (a - 1) a (a + 1) sb s d w0 w h hlt hne (by omega) (by omega) (by omega) hs hsz)
  obtain ⟨p, hp⟩ : ∃ p, a - 1 = p := ⟨_, rfl⟩
  obtain ⟨q, hq⟩ : ∃ q, a + 1 = q := ⟨_, rfl⟩
  have e1 : (a : Int) - 1 = (p : Int) := by omega
  have e2 : (a : Int) + 1 = (q : Int) := by omega
  have e3 : IntKind.i64.wrap (p : Int) = (p : Int) := by rw [IntKind.wrap_i64]; omega
  have e4 : IntKind.i64.wrap (q : Int) = (q : Int) := by rw [IntKind.wrap_i64]; omega
  unfold medianAdjacent
  rw [hp, hq] at C
  rw [hp, hq]
  obtain ⟨n, hn⟩ : ∃ n, d.size = n := ⟨_, rfl⟩
  rw [hn] at C
  rw [hn]
  obtain ⟨T, hT⟩ : ∃ T, median ltB d p a q s = T := ⟨_, rfl⟩
  rw [hT] at C
  rw [hT]
  clear hT hp hq h hn
  go_enter Tryz.func177, Tryz.ntmps177
  go_wp2_with fail
  refine C.out.mono ?_
  rintro e w1 ⟨m, s1, rfl, e1, hm, hs1, h1⟩
  clear C
  go_wp2
  go_ret
  exact ⟨m, s1, rfl, e1, hm, hs1, h1⟩
end Go.Proofs.YtnpgmekgmelamaaGreat
