/-
  What is proved: slices.pdqsortOrdered on bytes in memory. Nothing else that lay in memory is changed.
-/
import Derived.Test.YtchobpfdmkgnoaaDfTop
import Derived.Deep.CutBlock
import Derived.Deep.CutRange
namespace Go.Proofs.Ytchobpfdmkgnoaa
open Go.RowKit Go.Shelf Go.Sort

set_option maxRecDepth 1000000 in
set_option maxHeartbeats 8000000 in
theorem pdq_step (m n blk off cap a b lim : Nat) (d : Array UInt8) (w : World) (hsz : n ≤ 1000000) (ih : PdqN m n blk off cap) (hm0 : b - a < m + 1) (hH : Holds encB w blk off d) (hn : d.size = n) (hlt : blk < w.heap.size) (hab0 : a ≤ b) (hb0 : b ≤ n) (hlim : lim ≤ 1000000) (hBel : Go.Sort.Below ltB a b d) :
    Calls Try.prog 65 #[.slice (some ⟨blk, off, none⟩) n cap, .int .i64 (a : Int), .int .i64 (b : Int), .int .i64 (lim : Int)] w fun e w' => e = .returned (.tuple #[]) ∧ Holds encB w' blk off (pdq ltB d a b lim true true) ∧ OnlyAt blk w.heap.size w w' := by
  have CN := Lib.hid (calleesN blk off cap hsz)
  have IH := Lib.hid ih
  have HH := Lib.hid hH
  have HN := Lib.hid hn
  have HBel := Lib.hid hBel
  have HLT := Lib.hid hlt
  obtain ⟨T, hT⟩ : ∃ T, pdq ltB d a b lim true true = T := ⟨_, rfl⟩
  have HT0 := Lib.hid hT
  rw [hT]
  clear ih hH hn hBel hlt hT
  go_enter Try.func65, Try.ntmps65
  go_wp2
  go_loopg [1, 2, 3, 8, 9] m (fun gk s1 s2 s3 s8 s9 wr => ∃ (x y l : Nat) (wb wp : Bool) (dk : Array UInt8), s1 = .int .i64 x ∧ s2 = .int .i64 y ∧ s3 = .int .i64 l ∧ s8 = .bool wb ∧ s9 = .bool wp ∧ x ≤ y ∧ y ≤ n ∧ y - x ≤ gk ∧ y - x ≤ m ∧ l ≤ 1000000 ∧ Hid (dk.size = n) ∧ Hid (Go.Sort.Below ltB x y dk) ∧ Hid (Holds encB wr blk off dk) ∧ Hid (OnlyAt blk w.heap.size w wr) ∧ Hid (pdq ltB dk x y l wb wp = T))
  case atStart => exact ⟨a, b, lim, true, true, d, rfl, rfl, rfl, rfl, rfl, hab0, hb0, by omega, by omega, hlim, HN, HBel, HH, Lib.hid (OnlyAt.refl _ _ _), HT0⟩
  case round =>
    clear HN HBel HH HT0 hab0 hb0 hm0 hlim
    obtain ⟨x, y, l, wb, wp, dk, rfl, rfl, rfl, rfl, rfl, hxy, hyn, hgk, hm, hl, HS, HL, HK, HO, HT⟩ := hrel
    have hbw : blk < wr.heap.size := Nat.lt_of_lt_of_le HLT.out HO.out.size
    obtain ⟨len, hlen⟩ : ∃ len, y - x = len := ⟨_, rfl⟩
    have e1 : (y : Int) - (x : Int) = (len : Int) := by omega
    have e2 : IntKind.i64.wrap (len : Int) = (len : Int) := by rw [IntKind.wrap_i64]; omega
    by_cases h12 : len ≤ 12
    · have z12 : (len : Int) ≤ 12 := by omega
      have C1 := Lib.hid (CN.out.ins wr dk x y HK.out HS.out hxy hyn)
      have HE : Hid (insertionSort ltB dk x y = T) := Lib.hid (by rw [← HT.out, Go.Sort.pdq_small (by omega)])
      clear hlen
      go_wp2_with fail
      refine C1.out.mono ?_
      rintro e w2 ⟨rfl, h1, h2⟩
      go_wp2
      refine bodyPost_ret (results_none rfl _ _ _) rfl ?_
      exact ⟨rfl, HE.out ▸ h1, HO.out.trans (h2.mono HO.out.size)⟩
    · have z12 : ¬ (len : Int) ≤ 12 := by omega
      by_cases hl0 : l = 0
      · have C1 := Lib.hid (CN.out.heap wr dk x y HK.out HS.out (by omega) hyn)
        have HE : Hid (heapSort ltB dk x y = T) := Lib.hid (by rw [← HT.out, Go.Sort.pdq_heap (by omega) hl0])
        subst hl0
        clear hlen
        go_wp2_with fail
        refine C1.out.mono ?_
        rintro e w2 ⟨rfl, h1, h2⟩
        go_wp2
        refine bodyPost_ret (results_none rfl _ _ _) rfl ?_
        exact ⟨rfl, HE.out ▸ h1, HO.out.trans (h2.mono HO.out.size)⟩
      · obtain ⟨r, hr⟩ := rd_at (n := n) (dk := dk) (a := x) (b := y) (lim := l) (wb := wb) (wp := wp) (T := T) (by omega) hl0 hyn HS.out HL.out HT.out
        have R := Lib.hid hr
        have hlle := hr.lle
        have hpv1 := hr.pv.1
        have hpv2 := hr.pv.2
        have hc1 := hr.cr.1
        have hc2 := hr.cr.2
        clear hr HL HT
        have zl : ¬ (l : Int) = 0 := by omega
        have zlb : ((l : Int) == 0) = false := by simpa using hl0
        have hlen12 : x + 12 < y := by omega
        clear hlen
        go_upto_if 35 with fail
        go_cut [3] from 19 to 133 (fun s3 wx => s3 = .int .i64 (r.lim : Int) ∧ Hid (Holds encB wx blk off r.d1) ∧ Hid (OnlyAt blk w.heap.size w wx))
        case first =>
          cases wb with
          | true =>
            obtain ⟨q1, q2⟩ := R.out.nob rfl
            have HK1 : Hid (Holds encB wr blk off r.d1) := Lib.hid (by rw [q1]; exact HK.out)
            have Q2 := Lib.hid q2
            clear q1 q2
            go_wp2
            go_meet
            exact ⟨by rw [Q2.out], HK1, HO⟩
          | false =>
            obtain ⟨q1, q2⟩ := R.out.brk rfl
            obtain ⟨l1, hl1⟩ : ∃ l1, l - 1 = l1 := ⟨_, rfl⟩
            have f1 : (l : Int) - 1 = (l1 : Int) := by omega
            have f2 : IntKind.i64.wrap (l1 : Int) = (l1 : Int) := by rw [IntKind.wrap_i64]; omega
            have Q2 : Hid (r.lim = l1) := Lib.hid (by omega)
            have C1 := Lib.hid (CN.out.brk wr dk x y HK.out HS.out hbw (by omega) hyn)
            rw [← q1] at C1
            clear q1 q2 hl1
            go_wp2_with fail
            refine C1.out.mono ?_
            rintro e w2 ⟨rfl, h1, h2⟩
            have HK1 := Lib.hid h1
            have HO1 : Hid (OnlyAt blk w.heap.size w w2) := Lib.hid (HO.out.trans (h2.mono HO.out.size))
            clear h1 h2
            go_wp2
            go_meet
            exact ⟨by rw [Q2.out], HK1, HO1⟩
        case rest =>
          clear HK HO HS hbw zl zlb
          obtain ⟨rfl, HK, HO⟩ := hcut
          have hbw : blk < wc.heap.size := Nat.lt_of_lt_of_le HLT.out HO.out.size
          obtain ⟨cp, hcp⟩ : ∃ cp, r.c.1 = cp := ⟨_, rfl⟩
          obtain ⟨ch, hch⟩ : ∃ ch, r.c.2 = ch := ⟨_, rfl⟩
          have C1 := Lib.hid (CN.out.piv wc r.d1 x y HK.out R.out.s1 hbw hlen12 hyn)
          rw [R.out.c, hcp, hch] at C1
          rw [hcp] at hc1 hc2
          have HCP := Lib.hid hcp
          have HCH := Lib.hid hch
          obtain ⟨z, hz⟩ : ∃ z, hintCode ch = z := ⟨_, rfl⟩
          rw [hz] at C1
          have HZ := Lib.hid hz
          clear hcp hch hz
          obtain ⟨rl, hrl⟩ : ∃ rl, r.lim = rl := ⟨_, rfl⟩
          have HRL := Lib.hid hrl
          rw [hrl] at hlle
          rw [hrl]
          clear hrl
          go_wp2_with fail
          refine C1.out.mono ?_
          rintro e w2 ⟨rfl, hb2⟩
          have HK2 : Hid (Holds encB w2 blk off r.d1) := Lib.hid (holds_below HK.out hbw hb2)
          have HO2 : Hid (OnlyAt blk w.heap.size w w2) := Lib.hid (HO.out.trans ((below_only hb2).mono HO.out.size))
          clear HK HO hb2 C1
          have hS1 := Lib.hid R.out.s1
          go_upto_if 50 with fail
          go_cut [11, 12] from 19 to 133 (fun s11 s12 wx => s11 = .int .i64 (r.pivot : Int) ∧ s12 = .int .i64 (hintCode r.hint) ∧ Hid (Holds encB wx blk off r.d2) ∧ Hid (OnlyAt blk w.heap.size w wx))
          case first =>
            by_cases hdc : ch = .decreasing
            · obtain ⟨q1, q2, q3⟩ := R.out.dec (HCH.out.trans hdc)
              have hz2 : z = 2 := by rw [← HZ.out, hdc]; rfl
              subst hz2
              have hbw2 : blk < w2.heap.size := Nat.lt_of_lt_of_le HLT.out HO2.out.size
              have C2 := Lib.hid (CN.out.rev w2 r.d1 x y HK2.out hS1.out (by omega) hyn)
              rw [q1] at C2
              rw [HCP.out] at q2
              obtain ⟨y1, hy1⟩ : ∃ y1, y - 1 = y1 := ⟨_, rfl⟩
              obtain ⟨c1, hcc1⟩ : ∃ c1, cp - x = c1 := ⟨_, rfl⟩
              obtain ⟨pv, hpv⟩ : ∃ pv, y1 - c1 = pv := ⟨_, rfl⟩
              have g1 : (y : Int) - 1 = (y1 : Int) := by omega
              have g2 : IntKind.i64.wrap (y1 : Int) = (y1 : Int) := by rw [IntKind.wrap_i64]; omega
              have g3 : (cp : Int) - (x : Int) = (c1 : Int) := by omega
              have g4 : IntKind.i64.wrap (c1 : Int) = (c1 : Int) := by rw [IntKind.wrap_i64]; omega
              have g5 : (y1 : Int) - (c1 : Int) = (pv : Int) := by omega
              have g6 : IntKind.i64.wrap (pv : Int) = (pv : Int) := by rw [IntKind.wrap_i64]; omega
              have Q2 : Hid (r.pivot = pv) := Lib.hid (by omega)
              have Q3 : Hid (hintCode r.hint = 1) := Lib.hid (by rw [q3]; rfl)
              clear q1 q2 q3 hdc hy1 hcc1 hpv
              go_wp2_with fail
              refine C2.out.mono ?_
              rintro e w3 ⟨rfl, h1, h2⟩
              have HK3 := Lib.hid h1
              have HO3 : Hid (OnlyAt blk w.heap.size w w3) := Lib.hid (HO2.out.trans (h2.mono HO2.out.size))
              clear h1 h2
              go_wp2
              go_meet
              exact ⟨by rw [Q2.out], by rw [Q3.out], HK3, HO3⟩
            · obtain ⟨q1, q2, q3⟩ := R.out.ndc (fun e => hdc (HCH.out.symm.trans e))
              have hz2 : ¬ z = 2 := fun e => hdc (code_two (HZ.out.trans e))
              have hz2b : (z == 2) = false := by simpa using hz2
              have Q2 : Hid (r.pivot = cp) := Lib.hid (q2.trans HCP.out)
              have Q3 : Hid (hintCode r.hint = z) := Lib.hid (by rw [q3, HCH.out, HZ.out])
              have HK3 : Hid (Holds encB w2 blk off r.d2) := Lib.hid (by rw [q1]; exact HK2.out)
              clear q1 q2 q3 hdc
              go_wp2
              go_meet
              exact ⟨by rw [Q2.out], by rw [Q3.out], HK3, HO2⟩
          case rest =>
            clear HK2 HO2 hbw hS1 HZ HCH HCP hc1 hc2
            obtain ⟨rfl, rfl, HK, HO⟩ := hcut
            obtain ⟨z2, hz2⟩ : ∃ z2, hintCode r.hint = z2 := ⟨_, rfl⟩
            have HZ2 : Hid (decide (r.hint = .increasing) = (z2 == 1)) := Lib.hid (by rw [← hz2]; exact code_one)
            obtain ⟨pv, hpv⟩ : ∃ pv, r.pivot = pv := ⟨_, rfl⟩
            have HPV := Lib.hid hpv
            rw [hpv] at hpv1 hpv2
            rw [hz2, hpv]
            clear hz2 hpv
            go_upto_region 15 with fail
            go_cut [68] from 19 to 133 (fun s68 wx => s68 = .bool (wb && wp && (z2 == 1)) ∧ Hid (Holds encB wx blk off r.d2) ∧ Hid (OnlyAt blk w.heap.size w wx))
            case first =>
              cases wb with
              | false =>
                go_wp2
                go_meet
                exact ⟨rfl, HK, HO⟩
              | true =>
                cases wp with
                | false =>
                  go_wp2
                  go_meet
                  exact ⟨rfl, HK, HO⟩
                | true =>
                  obtain ⟨bz, hbz⟩ : ∃ bz, (z2 == 1) = bz := ⟨_, rfl⟩
                  go_wp2
                  go_meet
                  exact ⟨by simp [hbz], HK, HO⟩
            case rest =>
              clear HK HO
              obtain ⟨rfl, HK, HO⟩ := hcut
              obtain ⟨bb, hbb⟩ : ∃ bb, (wb && wp && (z2 == 1)) = bb := ⟨_, rfl⟩
              have HBB : Hid ((wb && wp && decide (r.hint = .increasing)) = bb) := Lib.hid (by rw [HZ2.out]; exact hbb)
              rw [hbb]
              clear hbb HZ2
              go_upto_if 68 with fail
              go_cut [] from 19 to 133 (fun wx => r.pi.2 = false ∧ Hid (Holds encB wx blk off r.pi.1) ∧ Hid (OnlyAt blk w.heap.size w wx))
              case first =>
                cases bb with
                | false =>
                  have q := R.out.no HBB.out
                  have q2 : r.pi.2 = false := by rw [q]
                  have HK3 : Hid (Holds encB wc blk off r.pi.1) := Lib.hid (by rw [q]; exact HK.out)
                  have Q2 := Lib.hid q2
                  clear q q2
                  go_wp2
                  go_meet
                  exact ⟨Q2.out, HK3, HO⟩
                | true =>
                  have q := R.out.yes HBB.out
                  have C2 := Lib.hid (CN.out.pin wc r.d2 x y HK.out R.out.s2 (by omega) hyn)
                  rw [q] at C2
                  clear q
                  obtain ⟨pb, hpb⟩ : ∃ pb, r.pi.2 = pb := ⟨_, rfl⟩
                  have HPB := Lib.hid hpb
                  rw [hpb] at C2
                  clear hpb
                  go_wp2_with fail
                  refine C2.out.mono ?_
                  rintro e w3 ⟨rfl, h1, h2⟩
                  have HK3 := Lib.hid h1
                  have HO3 : Hid (OnlyAt blk w.heap.size w w3) := Lib.hid (HO.out.trans (h2.mono HO.out.size))
                  clear h1 h2
                  cases pb with
                  | true =>
                    go_wp2
                    refine bodyPost_ret (results_none rfl _ _ _) rfl ?_
                    exact ⟨rfl, (R.out.done HPB.out) ▸ HK3.out, HO3.out⟩
                  | false =>
                    go_wp2
                    go_meet
                    exact ⟨HPB.out, HK3, HO3⟩
              case rest =>
                clear HK HO HBB
                obtain ⟨hpf, HK, HO⟩ := hcut
                have HPF := Lib.hid hpf
                clear hpf
                obtain ⟨q, hq⟩ : ∃ q, (decide (x > 0) && !ltB r.pi.1[x - 1]! r.pi.1[pv]!) = q := ⟨_, rfl⟩
                have HQ := Lib.hid hq
                clear hq
                have hS3 := Lib.hid R.out.s3
                go_upto_region 17 with fail
                go_cut [87] from 19 to 133 (fun s87 wx => s87 = .bool q ∧ Hid (Holds encB wx blk off r.pi.1) ∧ Hid (OnlyAt blk w.heap.size w wx))
                case first =>
                  by_cases hx0 : 0 < x
                  · have zx : (0 : Int) < (x : Int) := by omega
                    have hd : decide ((0 : Int) < (x : Int)) = true := decide_eq_true zx
                    obtain ⟨x1, hx1⟩ : ∃ x1, x - 1 = x1 := ⟨_, rfl⟩
                    have f1 : (x : Int) - 1 = (x1 : Int) := by omega
                    have f2 : IntKind.i64.wrap (x1 : Int) = (x1 : Int) := by rw [IntKind.wrap_i64]; omega
                    have ca := (HK.out x1 (by have := hS3.out; omega)).1
                    have cp := (HK.out pv (by have := hS3.out; omega)).1
                    obtain ⟨u, hu⟩ : ∃ u, r.pi.1[x1]! = u := ⟨_, rfl⟩
                    obtain ⟨v, hv⟩ : ∃ v, r.pi.1[pv]! = v := ⟨_, rfl⟩
                    have hqq := HQ.out
                    rw [hx1, hu, hv, decide_eq_true (show x > 0 from hx0), Bool.true_and] at hqq
                    rw [hu] at ca
                    rw [hv] at cp
                    unfold encB at ca cp
                    have i0 : (0 : Int) ≤ (x1 : Int) := by omega
                    have i1 : (x1 : Int) < (n : Int) := by omega
                    have j0 : (0 : Int) ≤ (pv : Int) := by omega
                    have j1 : (pv : Int) < (n : Int) := by omega
                    cases hlv : ltB u v with
                    | true =>
                      have HV : Hid (q = false) := Lib.hid (by rw [← hqq, hlv]; rfl)
                      have C2 : Hid (∀ w, Calls Try.prog 78 #[.int .u8 (u.toNat : Int), .int .u8 (v.toNat : Int)] w fun e w' => e = .returned (.bool true) ∧ w' = w) := Lib.hid (fun w => by have := less_any u v w; rwa [hlv] at this)
                      clear hlv hu hv hqq hx1
                      go_quiet (first | (go_at_call 78; refine Calls.quiet_of_same (C2.out _)))
                      go_wp2
                      go_meet
                      exact ⟨by rw [HV.out], Lib.hid (holds_drewN HK.out _), Lib.hid (only_drewN HO.out _)⟩
                    | false =>
                      have HV : Hid (q = true) := Lib.hid (by rw [← hqq, hlv]; rfl)
                      have C2 : Hid (∀ w, Calls Try.prog 78 #[.int .u8 (u.toNat : Int), .int .u8 (v.toNat : Int)] w fun e w' => e = .returned (.bool false) ∧ w' = w) := Lib.hid (fun w => by have := less_any u v w; rwa [hlv] at this)
                      clear hlv hu hv hqq hx1
                      go_quiet (first | (go_at_call 78; refine Calls.quiet_of_same (C2.out _)))
                      go_wp2
                      go_meet
                      exact ⟨by rw [HV.out], Lib.hid (holds_drewN HK.out _), Lib.hid (only_drewN HO.out _)⟩
                  · have zx : ¬ (0 : Int) < (x : Int) := by omega
                    have hd : decide ((0 : Int) < (x : Int)) = false := decide_eq_false zx
                    have HV : Hid (q = false) := Lib.hid (by rw [← HQ.out, decide_eq_false (show ¬ x > 0 from hx0), Bool.false_and])
                    go_quiet (fail)
                    go_wp2
                    go_meet
                    exact ⟨by rw [HV.out], Lib.hid (holds_drewN HK.out _), Lib.hid (only_drewN HO.out _)⟩
                case rest =>
                  clear HK HO
                  obtain ⟨rfl, HK, HO⟩ := hcut
                  have hbw : blk < wc.heap.size := Nat.lt_of_lt_of_le HLT.out HO.out.size
                  obtain ⟨g', rfl⟩ : ∃ g', gk = g' + 1 := ⟨gk - 1, by omega⟩
                  cases q with
                  | true =>
                    obtain ⟨md, d4, hE⟩ : ∃ md d4, partitionEqual ltB r.pi.1 x y pv = (md, d4) := ⟨_, _, rfl⟩
                    have hE0 := R.out.eq HPF.out (by rw [HPV.out]; exact HQ.out)
                    rw [HPV.out, hE, HRL.out] at hE0
                    obtain ⟨g1, g2, g3, g4, g5⟩ := hE0
                    have C2 := Lib.hid (CN.out.peq wc r.pi.1 x y pv HK.out hS3.out hpv1 hpv2 hyn)
                    rw [hE] at C2
                    dsimp only at C2 g1 g2 g3 g4 g5
                    have G3 := Lib.hid g3
                    have G4 := Lib.hid g4
                    have G5 := Lib.hid g5
                    clear hE g3 g4 g5
                    go_wp2_with fail
                    refine C2.out.mono ?_
                    rintro e w3 ⟨rfl, h1, h2⟩
                    have HK3 := Lib.hid h1
                    have HO3 : Hid (OnlyAt blk w.heap.size w w3) := Lib.hid (HO.out.trans (h2.mono HO.out.size))
                    clear h1 h2
                    go_wp2
                    go_roundg g'
                    case measure => omega
                    case rel => exact ⟨md, y, rl, wb, wp, d4, rfl, rfl, rfl, rfl, rfl, g2, hyn, by omega, by omega, by omega, G3, G4, HK3, HO3, G5⟩
                  | false =>
                    obtain ⟨md, ap, d4, hE⟩ : ∃ md ap d4, partition ltB r.pi.1 x y pv = (md, ap, d4) := ⟨_, _, _, rfl⟩
                    obtain ⟨g1, g2, g3, g4, g5, g6, g7⟩ := R.out.prt HPF.out (by rw [HPV.out]; exact HQ.out) md ap d4 (by rw [HPV.out]; exact hE)
                    rw [HRL.out] at g6 g7
                    have C2 := Lib.hid (CN.out.prt wc r.pi.1 x y pv HK.out hS3.out hpv1 hpv2 hyn)
                    rw [hE] at C2
                    dsimp only at C2
                    have G3 := Lib.hid g3
                    have G4 := Lib.hid g4
                    have G5 := Lib.hid g5
                    have G6 := Lib.hid g6
                    have G7 := Lib.hid g7
                    clear hE g3 g4 g5 g6 g7
                    obtain ⟨ll, hll⟩ : ∃ ll, md - x = ll := ⟨_, rfl⟩
                    obtain ⟨rr, hrr⟩ : ∃ rr, y - md = rr := ⟨_, rfl⟩
                    obtain ⟨th, hth⟩ : ∃ th, len / 8 = th := ⟨_, rfl⟩
                    obtain ⟨m1, hm1⟩ : ∃ m1, md + 1 = m1 := ⟨_, rfl⟩
                    have f1 : (md : Int) - (x : Int) = (ll : Int) := by omega
                    have f2 : IntKind.i64.wrap (ll : Int) = (ll : Int) := by rw [IntKind.wrap_i64]; omega
                    have f3 : (y : Int) - (md : Int) = (rr : Int) := by omega
                    have f4 : IntKind.i64.wrap (rr : Int) = (rr : Int) := by rw [IntKind.wrap_i64]; omega
                    have f5 : (len : Int).tdiv 8 = (th : Int) := by
                      have : (len : Int).tdiv 8 = (len : Int) / 8 := Int.tdiv_eq_ediv_of_nonneg (by omega)
                      omega
                    have f6 : IntKind.i64.wrap (th : Int) = (th : Int) := by rw [IntKind.wrap_i64]; omega
                    have f7 : (md : Int) + 1 = (m1 : Int) := by omega
                    have f8 : IntKind.i64.wrap (m1 : Int) = (m1 : Int) := by rw [IntKind.wrap_i64]; omega
                    have HLL := Lib.hid hll
                    have HRR := Lib.hid hrr
                    have HTH := Lib.hid hth
                    have HM1 := Lib.hid hm1
                    have HLEN : Hid (y - x = len) := Lib.hid (by omega)
                    have k1 : md - x < m := by omega
                    have k2 : y - m1 < m := by omega
                    have k3 : m1 ≤ y := by omega
                    have k4 : y - m1 ≤ g' := by omega
                    have k5 : md - x ≤ g' := by omega
                    by_cases hlr : ll < rr
                    · have zlr : (ll : Int) < (rr : Int) := by omega
                      have hd : decide ((ll : Int) < (rr : Int)) = true := decide_eq_true zlr
                      obtain ⟨g8, g9, g10⟩ := G6.out (by omega)
                      rw [show decide (md - x ≥ (y - x) / 8) = decide (th ≤ ll) from decide_eq_decide.mpr (by omega), hm1] at g10
                      rw [hm1] at g9
                      clear G6 G7 hll hrr hth hm1
                      go_wp2_with fail
                      refine C2.out.mono ?_
                      rintro e w3 ⟨rfl, h1, h2⟩
                      have hbw3 : blk < w3.heap.size := Nat.lt_of_lt_of_le hbw h2.size
                      have C3 := Lib.hid (IH.out w3 d4 x md rl k1 h1 G3.out hbw3 g1 (by omega) (by omega) G4.out)
                      have HO3 : Hid (OnlyAt blk w.heap.size w w3) := Lib.hid (HO.out.trans (h2.mono HO.out.size))
                      obtain ⟨d5, hd5⟩ : ∃ d5, pdq ltB d4 x md rl true true = d5 := ⟨_, rfl⟩
                      rw [hd5] at g8 g9 g10 C3
                      have G8 := Lib.hid g8
                      have G9 := Lib.hid g9
                      have G10 := Lib.hid g10
                      clear h1 h2 hd5 g8 g9 g10 C2
                      go_wp2_with fail
                      refine C3.out.mono ?_
                      rintro e w4 ⟨rfl, h1, h2⟩
                      have HK4 := Lib.hid h1
                      have HO4 : Hid (OnlyAt blk w.heap.size w w4) := Lib.hid (HO3.out.trans (h2.mono HO3.out.size))
                      clear h1 h2 C3
                      go_wp2
                      go_roundg g'
                      case measure => omega
                      case rel => exact ⟨m1, y, rl, decide (th ≤ ll), ap, d5, rfl, rfl, rfl, rfl, rfl, k3, hyn, k4, by omega, by omega, G8, G9, HK4, HO4, G10⟩
                    · have zlr : ¬ (ll : Int) < (rr : Int) := by omega
                      have hd : decide ((ll : Int) < (rr : Int)) = false := decide_eq_false zlr
                      obtain ⟨g8, g9, g10⟩ := G7.out (by omega)
                      rw [show decide (y - md ≥ (y - x) / 8) = decide (th ≤ rr) from decide_eq_decide.mpr (by omega), hm1] at g10
                      rw [hm1] at g8 g9
                      have g5 := G5.out
                      rw [hm1] at g5
                      have G5' := Lib.hid g5
                      clear G6 G7 hll hrr hth hm1 g5
                      go_wp2_with fail
                      refine C2.out.mono ?_
                      rintro e w3 ⟨rfl, h1, h2⟩
                      have hbw3 : blk < w3.heap.size := Nat.lt_of_lt_of_le hbw h2.size
                      have C3 := Lib.hid (IH.out w3 d4 m1 y rl k2 h1 G3.out hbw3 k3 hyn (by omega) G5'.out)
                      have HO3 : Hid (OnlyAt blk w.heap.size w w3) := Lib.hid (HO.out.trans (h2.mono HO.out.size))
                      obtain ⟨d5, hd5⟩ : ∃ d5, pdq ltB d4 m1 y rl true true = d5 := ⟨_, rfl⟩
                      rw [hd5] at g8 g9 g10 C3
                      have G8 := Lib.hid g8
                      have G9 := Lib.hid g9
                      have G10 := Lib.hid g10
                      clear h1 h2 hd5 g8 g9 g10 C2
                      go_wp2_with fail
                      refine C3.out.mono ?_
                      rintro e w4 ⟨rfl, h1, h2⟩
                      have HK4 := Lib.hid h1
                      have HO4 : Hid (OnlyAt blk w.heap.size w w4) := Lib.hid (HO3.out.trans (h2.mono HO3.out.size))
                      clear h1 h2 C3
                      go_wp2
                      go_roundg g'
                      case measure => omega
                      case rel => exact ⟨x, md, rl, decide (th ≤ rr), ap, d5, rfl, rfl, rfl, rfl, rfl, g1, by omega, k5, by omega, by omega, G8, G9, HK4, HO4, G10⟩

theorem pdq_any (n blk off cap : Nat) (hsz : n ≤ 1000000) : ∀ m, PdqN m n blk off cap := by
  intro m
  induction m with
  | zero => exact fun _ _ x y l h => by omega
  | succ m ih => exact fun W dk x y l h1 h2 h3 h4 h5 h6 h7 h8 => pdq_step m n blk off cap x y l dk W hsz ih h1 h2 h3 h4 h5 h6 h7 h8
end Go.Proofs.Ytchobpfdmkgnoaa
