/-
  What is proved: outlawlaw08.NfaRun returns true at any glob, bool and string: a run matches what the glob matches, step by step, for each prefix. No conditions.
-/
import Derived.Test.YtinhihdceijfaaaNfNames
import Derived.Test.YtinhihdceijfaaaGlLaw
import Derived.BigQuiet
namespace Go.Proofs.Ytinhihdceijfaaa
open Go.RowKit Go.Shelf

theorem up_listF (n : Nat) (g : Nat → Bool) : (listF n g).Pairwise (· < ·) := List.Pairwise.filter _ List.pairwise_lt_range
theorem up_intsF {n : Nat} {g : Nat → Bool} {j : Nat} (h0 : 0 < j) (hj : j < (intsF n g).length) : (intsF n g).getD (j - 1) 0 < (intsF n g).getD j 0 := by
  have hl : (intsF n g).length = (listF n g).length := by unfold intsF; rw [List.length_map]
  have e : ∀ k, k < (intsF n g).length → ∃ x : Nat, (listF n g)[k]? = some x ∧ (intsF n g).getD k 0 = (x : Int) := fun k hk => by
    have hk' : k < (listF n g).length := by omega
    refine ⟨(listF n g)[k], List.getElem?_eq_getElem hk', ?_⟩
    unfold intsF
    rw [List.getD, List.getElem?_map, List.getElem?_eq_getElem hk']
    rfl
  obtain ⟨x, hx, ex⟩ := e (j - 1) (by omega)
  obtain ⟨y, hy, ey⟩ := e j hj
  rw [ex, ey]
  have := List.pairwise_iff_getElem.1 (up_listF n g) (j - 1) j (by omega) (by omega) (by omega)
  rw [List.getElem?_eq_getElem (by omega)] at hx hy
  simp only [Option.some.injEq] at hx hy
  rw [hx, hy] at this
  omega

theorem in_intsF {n : Nat} {g : Nat → Bool} {j : Nat} (h : j < (intsF n g).length) : ∃ x : Nat, (intsF n g).getD j 0 = (x : Int) ∧ x < n := by
  have hm : (intsF n g).getD j 0 ∈ intsF n g := by
    have e : (intsF n g).getD j 0 = (intsF n g)[j] := by rw [List.getD, List.getElem?_eq_getElem h]; rfl
    rw [e]; exact List.getElem_mem h
  obtain ⟨x, e, hx, _⟩ := mem_intsF.1 hm
  exact ⟨x, e, hx⟩

/-- The lists of states after the first bytes of a string. -/
structure RunL (p t : ByteArray) (f : Bool) (P : List UInt8) (L : Nat → List Int) (M : Nat → Bool) : Prop where
  start : ∀ W b, NfaAt W b P f → Calls Try.prog 13 #[.pointer (some ⟨b, 0, none⟩)] W fun e w' => ∃ v, e = .returned v ∧ Ints w' v (L 0) ∧ Below W.heap.size W w'
  step : ∀ W b v i (hi : i < t.size), NfaAt W b P f → Ints W v (L i) → Calls Try.prog 14 #[.pointer (some ⟨b, 0, none⟩), v, .int .u8 ((t[i]'hi).toNat : Int)] W fun e w' => ∃ v', e = .returned v' ∧ Ints w' v' (L (i + 1)) ∧ Below W.heap.size W w'
  acc : ∀ W b v i, i ≤ t.size → NfaAt W b P f → Ints W v (L i) → Calls Try.prog 15 #[.pointer (some ⟨b, 0, none⟩), v] W fun e w' => e = .returned (.bool (M i)) ∧ w' = W
  run : ∀ W b, NfaAt W b P f → Calls Try.prog 16 #[.pointer (some ⟨b, 0, none⟩), .string t] W fun e w' => e = .returned (.bool (M t.size)) ∧ Below W.heap.size W w'
  mat : ∀ W i, i ≤ t.size → Calls Try.prog 25 #[.string p, .string (t.extract 0 i), .bool f] W fun e w' => e = .returned (.bool (M i)) ∧ Drew W w'
  all : ∀ W, Calls Try.prog 25 #[.string p, .string t, .bool f] W fun e w' => e = .returned (.bool (M t.size)) ∧ Drew W w'
  rng : ∀ i j, j < (L i).length → ∃ x : Nat, (L i).getD j 0 = (x : Int) ∧ x < P.length + 1
  up : ∀ i j, 0 < j → j < (L i).length → (L i).getD (j - 1) 0 < (L i).getD j 0
  last : L (t.size + 1) = L t.size
  len : ∀ i, (L i).length ≤ 256

theorem runL_any (p t : ByteArray) (f : Bool) (hp : checkN p.size = 0) (ht : t.size ≤ 200) : ∃ L M, RunL p t f (normP p) L M := by
  have hp2 := (check_pos hp).2
  obtain ⟨P, hP⟩ : ∃ P, normP p = P := ⟨_, rfl⟩
  have hPl : P.length ≤ 255 := by rw [← hP]; exact Nat.le_trans (normP_len p) hp2
  have hns : noSt P := by rw [← hP]; exact normP_no p
  have hmt : ∀ u, mt f P u = mt f p.data.toList u := fun u => by rw [← hP]; exact norm_mt f p.data.toList false u
  rw [hP]
  have hM : ∀ i, runF (cntL f P) (cntL f (t.data.toList.take i)) (startF (cntL f P)) P.length = mt f p.data.toList (t.data.toList.take i) := fun i => by
    have := run_end (cntL f P) (cntL f (t.data.toList.take i))
    rw [cntL_len] at this
    rw [this, ← cnt_mt, hmt]
  have hfull : t.data.toList.take t.size = t.data.toList := List.take_of_length_le (by rw [Lib.size_eq]; omega)
  refine ⟨fun i => intsF (P.length + 1) (runF (cntL f P) (cntL f (t.data.toList.take i)) (startF (cntL f P))), fun i => mt f p.data.toList (t.data.toList.take i), ⟨?_, ?_, ?_, ?_, ?_, ?_, ?_, ?_, ?_, ?_⟩⟩
  · intro W b h
    have := start_any h (by omega) hns
    simp only [List.take_zero]
    have e : cntL f [] = [] := by cases f <;> rfl
    rw [e]
    exact this
  · intro W b v i hi h hv
    have := take_any h (by omega) hns hv (Nat.le_trans (intsF_len _ _) (by omega)) (t[i]'hi)
    have e : t.data.toList.take (i + 1) = t.data.toList.take i ++ [t[i]'hi] := by
      rw [List.take_add_one, List.getElem?_eq_getElem (by rw [← Lib.size_eq]; exact hi)]; rfl
    rw [e, cnt_snoc, runF_snoc]
    have e2 : intsF (P.length + 1) (stepF (cntL f P) (cntC f (t[i]'hi)) (inL (intsF (P.length + 1) (runF (cntL f P) (cntL f (t.data.toList.take i)) (startF (cntL f P)))))) = intsF (P.length + 1) (stepF (cntL f P) (cntC f (t[i]'hi)) (runF (cntL f P) (cntL f (t.data.toList.take i)) (startF (cntL f P)))) :=
      intsF_congr (stepF_congr (fun j hj => inL_ints hj))
    rw [e2] at this
    exact this
  · intro W b v i hi h hv
    have := accepts_any h hv (Nat.le_trans (intsF_len _ _) (by omega))
    rw [inL_ints (by omega), hM] at this
    exact this
  · intro W b h
    have := run_any h (by omega) hns t (by omega)
    rw [hmt, ← hfull] at this
    exact this
  · intro W i hi
    have hs : (t.extract 0 i).data.toList = t.data.toList.take i := by
      rw [Lib.extract_eq]; simp
    have := match_drew p (t.extract 0 i) f W (by omega) (by rw [Lib.size_eq, hs, List.length_take]; omega)
    rw [hs] at this
    exact this
  · intro W
    have := match_drew p t f W (by omega) (by omega)
    rw [← hfull] at this
    exact this
  · intro i j hj
    exact in_intsF hj
  · intro i j h0 hj
    exact up_intsF h0 hj
  · show intsF _ (runF _ (cntL f (t.data.toList.take (t.size + 1))) _) = intsF _ (runF _ (cntL f (t.data.toList.take t.size)) _)
    rw [hfull, List.take_of_length_le (by rw [Lib.size_eq]; omega)]
  · intro i
    exact Nat.le_trans (intsF_len _ _) (by omega)

theorem Ints.drew {w w' : World} {v : Value} {zs : List Int} (h : Ints w v zs) (hd : Drew w w') : Ints w' v zs := h.below hd.below

set_option maxHeartbeats 8000000 in
set_option maxRecDepth 1000000 in
theorem run_core (p t : ByteArray) (f : Bool) (w : World) (hp : checkN p.size = 0) (ht : t.size ≤ 200) :
    Calls Try.prog 5 #[.string p, .bool f, .string t] w fun e w' => e = .returned (.bool true) ∧ Below w.heap.size w w' := by
  have hp2 := (check_pos hp).2
  obtain ⟨L, M, R⟩ := runL_any p t f hp ht
  obtain ⟨P, hP⟩ : ∃ P, normP p = P := ⟨_, rfl⟩
  have hPl : P.length ≤ 255 := by rw [← hP]; exact Nat.le_trans (normP_len p) hp2
  rw [hP] at R
  have C0 := Lib.hid (lives_any w)
  have CL := Lib.hid (fun w => light_any p t w)
  rw [show (decide (p.size ≤ 300) && decide (t.size ≤ 200)) = true by rw [decide_eq_true (by omega), decide_eq_true ht]; rfl] at CL
  have C1 : Hid (∀ W, Calls Try.prog 8 #[.string p, .bool f] W fun e w' => ∃ b, e = .returned (.tuple #[.pointer (some ⟨b, 0, none⟩), .int .i64 0]) ∧ W.heap.size ≤ b ∧ NfaAt w' b P f ∧ Below W.heap.size W w') := Lib.hid (fun W => by have := new_any p f W hp; rwa [hP] at this)
  have C4 : Hid (∀ (W : World) (b : Nat), NfaAt W b P f → Calls Try.prog 11 #[.pointer (some ⟨b, 0, none⟩)] W fun e w' => e = .returned (.int .i64 ((P.length : Int) + 1)) ∧ w' = W) := Lib.hid (fun W b h => sizes_any h (by omega))
  replace R := Lib.hid R
  clear hP hp
  go_enter Try.func5, Try.ntmps5
  go_wp2_with (go_at_call 9; refine C0.out.mono ?_; rintro e w1 ⟨rfl, hb1⟩)
  refine (CL.out _).mono ?_
  rintro e w2 ⟨rfl, rfl⟩
  go_wp2_with fail
  refine (C1.out _).mono ?_
  rintro e w3 ⟨b, rfl, _, ho, hb3⟩
  have hb0 := hb1.trans (hb3.mono hb1.size)
  clear hb1 hb3 C0 C1 CL
  have hl := ho.lt
  go_wp2_with fail
  refine (R.out.start _ _ ho).mono ?_
  rintro e w4 ⟨v, rfl, hi4, hb4⟩
  obtain ⟨a, cap, rfl, _⟩ := hi4.reads
  replace hi4 := Lib.hid hi4
  replace hb4 := Lib.hid hb4
  replace hb0 := Lib.hid hb0
  replace ho := Lib.hid ho
  go_wp2
  go_loopg [9, 10] (t.size + 1) (fun gk s9 s10 wr => ∃ (i : Nat) (a : Option Addr) (cap : Nat), i + gk = t.size + 1 ∧ s9 = .slice a (L i).length cap ∧ s10 = .int .i64 i ∧ Hid (Ints wr (.slice a (L i).length cap) (L i)) ∧ Hid (Below w3.heap.size w3 wr))
  case atStart => exact ⟨0, a, cap, by omega, rfl, rfl, hi4, hb4⟩
  case round =>
    obtain ⟨i, a, cap, hig, rfl, rfl, HI, HB⟩ := hrel
    clear hi4 hb4
    cases gk with
    | zero =>
      have hiz : ¬ ((i : Int) ≤ (t.size : Int)) := by omega
      have ho9 := ho.out.below HB.out hl
      have C7 := Lib.hid (R.out.run _ _ ho9)
      have C8 := Lib.hid R.out.all
      obtain ⟨x, hx⟩ : ∃ x, M t.size = x := ⟨_, rfl⟩
      rw [hx] at C7 C8
      clear hx ho9
      go_wp2_with (go_at_call 16; refine C7.out.mono ?_; rintro e w5 ⟨rfl, hb5⟩)
      refine (C8.out _).mono ?_
      rintro e w6 ⟨rfl, hd6⟩
      have hfin := Lib.hid (hb0.out.trans ((on1 (on1 HB.out hb5 (Nat.le_refl _)) hd6.below (Nat.le_refl _)).mono hb0.out.size))
      clear hb5 hd6
      go_wp2
      go_ret
      exact ⟨rfl, hfin.out⟩
    | succ g' =>
      have hiz : (i : Int) ≤ (t.size : Int) := by omega
      have hin : i ≤ t.size := by omega
      have C5 := Lib.hid (fun (q : Nat) => R.out.acc (wr.drewN q) b _ i hin (ho.out.below (below_drewN HB.out q) hl) (HI.out.drew ⟨q, rfl⟩))
      have C6 := Lib.hid (fun W => R.out.mat W i hin)
      obtain ⟨x, hx⟩ : ∃ x, M i = x := ⟨_, rfl⟩
      rw [hx] at C5 C6
      clear hx
      have hi0 : (0 : Int) ≤ (i : Int) := by omega
      go_wp2
      go_quiet (first | (go_at_call 15; refine Calls.quiet_of_same (C5.out _)) | (go_at_call 25; refine Calls.quiet_of (C6.out _)))
      have HI5 := Lib.hid (HI.out.drew ⟨nq, rfl⟩)
      have HB5 := Lib.hid (below_drewN HB.out nq)
      obtain ⟨W5, hW5⟩ : ∃ W5, wr.drewN nq = W5 := ⟨_, rfl⟩
      rw [hW5] at HI5 HB5
      rw [hW5]
      clear hW5 HI HB C5 C6
      have HD0 := Lib.hid (Drew.refl W5)
      go_wp2
      go_loopg [11] (L i).length (fun gk s11 wi => ∃ k : Nat, k + gk = (L i).length ∧ s11 = .int .i64 k ∧ Hid (Drew W5 wi))
      case atStart => exact ⟨0, by omega, rfl, HD0⟩
      case round =>
        obtain ⟨k, hkg, rfl, HD⟩ := hrel
        clear HD0
        cases gk with
        | succ gj =>
          have hkz : (k : Int) < ((L i).length : Int) := by omega
          have hkn : k < (L i).length := by omega
          obtain ⟨a', cap', e', hrd⟩ := HI5.out.reads
          cases e'
          obtain ⟨b', off, rfl, hce⟩ := hrd.out wr HD.out.below k hkn
          obtain ⟨y, hy, hyn⟩ := R.out.rng i k hkn
          rw [hy] at hce
          have C9 := Lib.hid (fun (q : Nat) => C4.out (wr.drewN q) b (ho.out.below (below_drewN (HB5.out.trans (HD.out.below.mono HB5.out.size)) q) hl))
          have hy0 : decide ((y : Int) < 0) = false := decide_eq_false (by omega)
          have hy1 : decide ((P.length : Int) + 1 ≤ (y : Int)) = false := decide_eq_false (by omega)
          cases k with
          | zero =>
            clear hy hrd
            rw [Nat.add_zero] at hce
            go_wp2
            go_quiet (first | (go_at_call 11; refine Calls.quiet_of_same (C9.out _)))
            go_wp2
            go_roundg gj
            case measure => omega
            case rel => exact ⟨0 + 1, by omega, iv (by omega), Lib.hid (HD.out.on _)⟩
          | succ j =>
            obtain ⟨b2, off2, e2, hcj⟩ := hrd.out wr HD.out.below j (by omega)
            cases e2
            obtain ⟨z, hz, hzn⟩ := R.out.rng i j (by omega)
            have hup := R.out.up i (j + 1) (by omega) hkn
            rw [show j + 1 - 1 = j from rfl, hz, hy] at hup
            rw [hz] at hcj
            have hzy : decide ((y : Int) ≤ (z : Int)) = false := decide_eq_false (by omega)
            have hj0 : (0 : Int) < (j : Int) + 1 := by omega
            have hj1 : ((j : Int) + 1 - 1) = (j : Int) := by omega
            have hj2 : (j : Int) + 1 < ((L i).length : Int) := by omega
            have hj3 : (0 : Int) ≤ (j : Int) + 1 := by omega
            have hj4 : (j : Int) < ((L i).length : Int) := by omega
            have hj5 : (0 : Int) ≤ (j : Int) := by omega
            have hj6 : IntKind.i64.wrap ((j : Int) + 1 - 1) = (j : Int) := by rw [IntKind.wrap_i64]; have := R.out.len i; omega
            have hj7 : IntKind.i64.wrap (j : Int) = (j : Int) := by rw [IntKind.wrap_i64]; have := R.out.len i; omega
            clear hup hz hy hrd
            go_wp2
            go_quiet (first | (go_at_call 11; refine Calls.quiet_of_same (C9.out _)))
            have hup2 : (z : Int) < (y : Int) := by simpa using hzy
            go_wp2
            all_goals (try (exfalso; omega))
            go_roundg gj
            case measure => omega
            case rel => exact ⟨j + 1 + 1, by omega, iv (by have := R.out.len i; unfold wrap64; omega), Lib.hid (HD.out.on _)⟩
        | zero =>
          have hkz : ¬ ((k : Int) < ((L i).length : Int)) := by omega
          have HI6 := Lib.hid (HI5.out.drew HD.out)
          have HB6 := Lib.hid (HB5.out.trans (HD.out.below.mono HB5.out.size))
          clear HI5 HB5 HD
          by_cases hit : i < t.size
          · have hiz2 : (i : Int) < (t.size : Int) := by omega
            have C7 := Lib.hid (R.out.step wr b _ i hit (ho.out.below HB6.out hl) HI6.out)
            go_wp2_with (go_at_call 14; refine C7.out.mono ?_; rintro e w7 ⟨v7, rfl, hi7, hb7⟩; obtain ⟨a7, cap7, rfl, _⟩ := hi7.reads; replace hi7 := Lib.hid hi7; replace hb7 := Lib.hid (on1 HB6.out hb7 (Nat.le_refl _)))
            go_roundg g'
            case measure => omega
            case rel => exact ⟨i + 1, a7, cap7, by omega, rfl, iv (by omega), hi7, hb7⟩
          · have hiz2 : ¬ ((i : Int) < (t.size : Int)) := by omega
            have hie : Hid (i = t.size) := Lib.hid (by omega)
            go_wp2
            go_roundg g'
            case measure => omega
            case rel =>
              obtain rfl := hie.out
              exact ⟨t.size + 1, a, cap, by omega, by rw [R.out.last], iv (by omega), by rw [R.out.last]; exact HI6, HB6⟩

theorem run_not (p t : ByteArray) (f : Bool) (w : World) (hp : checkN p.size ≠ 0) (ht : p.size ≤ 300) (ht2 : t.size ≤ 200) :
    Calls Try.prog 5 #[.string p, .bool f, .string t] w fun e w' => e = .returned (.bool true) ∧ Below w.heap.size w w' := by
  have C0 := Lib.hid (lives_any w)
  have CL := Lib.hid (fun w => light_any p t w)
  rw [show (decide (p.size ≤ 300) && decide (t.size ≤ 200)) = true by rw [decide_eq_true ht, decide_eq_true ht2]; rfl] at CL
  have C1 := Lib.hid (fun W => new_not p f W hp)
  have C2 := Lib.hid (fun W => check_any p W)
  obtain ⟨k, hk⟩ : ∃ k, checkN p.size = k := ⟨_, rfl⟩
  rw [hk] at C1 C2 hp
  clear hk ht ht2
  have hz : ¬ (k = 0) := hp
  clear hp
  go_enter Try.func5, Try.ntmps5
  go_wp2_with (go_at_call 9; refine C0.out.mono ?_; rintro e w1 ⟨rfl, hb1⟩)
  refine (CL.out _).mono ?_
  rintro e w2 ⟨rfl, rfl⟩
  go_wp2_with fail
  refine (C1.out _).mono ?_
  rintro e w3 ⟨rfl, rfl⟩
  go_wp2_with fail
  refine (C2.out _).mono ?_
  rintro e w4 ⟨rfl, rfl⟩
  go_wp2
  go_ret
  exact ⟨rfl, hb1⟩

theorem run_heavy (p t : ByteArray) (f : Bool) (w : World) (h : (decide (p.size ≤ 300) && decide (t.size ≤ 200)) = false) :
    Calls Try.prog 5 #[.string p, .bool f, .string t] w fun e w' => e = .returned (.bool true) ∧ Below w.heap.size w w' := by
  have C0 := Lib.hid (lives_any w)
  have CL := Lib.hid (fun w => light_any p t w)
  rw [h] at CL
  clear h
  go_enter Try.func5, Try.ntmps5
  go_wp2_with (go_at_call 9; refine C0.out.mono ?_; rintro e w1 ⟨rfl, hb1⟩)
  refine (CL.out _).mono ?_
  rintro e w2 ⟨rfl, rfl⟩
  go_wp2
  go_ret
  exact ⟨rfl, hb1⟩

/-- The law, for every input. -/
theorem nfrun_any (p t : ByteArray) (f : Bool) (w : World) :
    Calls Try.prog 5 #[.string p, .bool f, .string t] w fun e w' => e = .returned (.bool true) ∧ Below w.heap.size w w' := by
  by_cases h : p.size ≤ 300 ∧ t.size ≤ 200
  · by_cases hp : checkN p.size = 0
    · exact run_core p t f w hp h.2
    · exact run_not p t f w hp h.1 h.2
  · refine run_heavy p t f w ?_
    by_cases h1 : p.size ≤ 300
    · rw [decide_eq_true h1, decide_eq_false (fun h2 => h ⟨h1, h2⟩)]; rfl
    · rw [decide_eq_false h1]; rfl

open Go.ChangeShapes Go.WideShapes Go.ChangeAt
open Go.ChangeMaps (open_string shut_string)
theorem nfrun_own : ownKnob Try.prog.godebug = none := by kernel_rfl

set_option maxRecDepth 100000 in
theorem nfrun_lifted (os : Os) (started : os.Started) (H : Type) (enc : TypeId × Value → H) :
    ReturnsInHanded {} Try.checked os 5 .any (Rows.nfaRunSpec.pre6 enc Try.prog Try.f5 Rows.nfaRunRow.domain false) (Rows.nfaRunSpec.post enc Try.prog Try.f5 false true false false) := by
  refine returnsInHanded_of_change (C := Try.checked) nfrun_own started (by kernel_rfl) Try.func5
    (ChangeSpec.witness6 (enc := enc) (C := Try.checked) false ⟨#[], #[.string ByteArray.empty, .bool false, .string ByteArray.empty], []⟩ 8 (by kernel_rfl) (by kernel_rfl) (by kernel_rfl) (by kernel_rfl)) ?_
  intro W base args ds gs before hval0 hW hcnd _
  have hval : ∀ (j : Nat) t v, Try.f5.params[j]? = some t → args[j]? = some v → Value.okWide Try.prog W .any base t v := hval0
  have hW' := hW
  obtain ⟨p, q, hA0, hV, rfl, hfz, hnd⟩ := hW
  have hA : DataW.TrodAll enc Try.prog W 0 (fun _ => true) true Try.f5.params.toList args.toList ds p := hA0
  rw [Try.params5] at hA hval
  obtain ⟨v0, vs0, d0, ds0, p0, q0, hargs, rfl, rfl, h0, r0⟩ := trodAll_cons hA
  obtain ⟨v1, vs1, d1, ds1, p1, q1, rfl, rfl, rfl, h1, r1⟩ := trodAll_cons r0
  obtain ⟨v2, vs2, d2, ds2, p2, q2, rfl, rfl, rfl, h2, r2⟩ := trodAll_cons r1
  obtain ⟨rfl, rfl, rfl⟩ := trodAll_nil r2
  obtain rfl : args = #[v0, v1, v2] := by cases args; simp_all
  obtain ⟨rfl, rfl⟩ := trodVars_none hV
  obtain ⟨a0, rfl, rfl, rfl, w0⟩ := open_string Try.underlying9 (hval 0 9 v0 rfl rfl) h0
  obtain ⟨a1, rfl, rfl, rfl⟩ := open_bool Try.underlying4 (hval 1 4 v1 rfl rfl) h1
  obtain ⟨a2, rfl, rfl, rfl, w2⟩ := open_string Try.underlying9 (hval 2 9 v2 rfl rfl) h2
  clear hA0 hval0
  simp only [List.append_nil] at hW'
  refine (nfrun_any a0 a2 a1 W).mono fun e W' ⟨he, bel⟩ => ?_
  subst he
  exact ⟨_, rfl, _, _, _, [], _, [], hW', trodAll_mk1 (shut_bool Try.underlying4 _), (trodAll_cons_mk (shut_string Try.underlying9 w0) (trodAll_cons_mk (shut_bool Try.underlying4 _) (trodAll_cons_mk (shut_string Try.underlying9 w2) trodAll_mk0))), rfl, bel.frame _, fun h => by cases h⟩

/-- The statement. -/
theorem nfrun_said : Rows.NfaRunSaid :=
  OpenClaim.holds_of_wide 5 Try.f5 rfl rfl rfl rfl rfl rfl rfl ⟨rfl, rfl, rfl, rfl, rfl⟩ rfl rfl rfl rfl rfl (by kernel_rfl) Try.func5 (by kernel_rfl)
    (of_decide_eq_true (by kernel_rfl)) (by unfold Func.isWrapper; first | (rw [if_pos (by decide +kernel)]; kernel_rfl) | (rw [if_neg (by decide +kernel)]; exact ⟨rfl, rfl⟩))
    (fun os started H enc _ => nfrun_lifted os started H enc)
#print axioms nfrun_said
end Go.Proofs.Ytinhihdceijfaaa
