/-
  What is proved: outlawlaw08.NfaCalls returns true at any glob, bool, list, byte and string: states, steps and runs are what the document's own automaton (package outlawref08) says. No conditions.
-/
import Derived.Test.YtinhihdceijfaaaNfRefC
import Derived.Deep.RegionHeld3
namespace Go.Proofs.Ytinhihdceijfaaa
open Go.RowKit Go.Shelf

/-- What is asked of the two automata, in every world behind w5. -/
structure Both (w5 : World) (b o : Nat) (vl : Value) (c : UInt8) (t : ByteArray) (P : List UInt8) (A D zs : List Int) (S : ByteArray) (x y : Bool) : Prop where
  sizes : ∀ W, Below w5.heap.size w5 W → Calls Try.prog 11 #[.pointer (some ⟨b, 0, none⟩)] W fun e w' => e = .returned (.int .i64 ((S.size : Int) + 1)) ∧ w' = W
  start : ∀ W, Below w5.heap.size w5 W → Calls Try.prog 13 #[.pointer (some ⟨b, 0, none⟩)] W fun e w' => ∃ v, e = .returned v ∧ Ints w' v A ∧ Below w5.heap.size w5 w'
  refStart : ∀ W v, Below w5.heap.size w5 W → Ints W v A → Calls Try.prog 19 #[.pointer (some ⟨o, 0, none⟩)] W fun e w' => ∃ v2, e = .returned v2 ∧ Ints w' v2 A ∧ Ints w' v A ∧ Below w5.heap.size w5 w'
  same : ∀ W v v2 ys, Below w5.heap.size w5 W → Ints W v ys → Ints W v2 ys → ys.length ≤ 1000000 → Calls Try.prog 12 #[v, v2] W fun e w' => e = .returned (.bool true) ∧ Below w5.heap.size w5 w'
  own : ∀ W, Below w5.heap.size w5 W → Calls Try.prog 20 #[vl] W fun e w' => ∃ v, e = .returned v ∧ Ints w' v zs ∧ Below w5.heap.size w5 w'
  step : ∀ W v, Below w5.heap.size w5 W → Ints W v zs → Calls Try.prog 14 #[.pointer (some ⟨b, 0, none⟩), v, .int .u8 (c.toNat : Int)] W fun e w' => ∃ v2, e = .returned v2 ∧ Ints w' v2 D ∧ Below w5.heap.size w5 w'
  refStep : ∀ W v, Below w5.heap.size w5 W → Ints W v D → Calls Try.prog 21 #[.pointer (some ⟨o, 0, none⟩), vl, .int .u8 (c.toNat : Int)] W fun e w' => ∃ v2, e = .returned v2 ∧ Ints w' v2 D ∧ Ints w' v D ∧ Below w5.heap.size w5 w'
  acc : ∀ W v, Below w5.heap.size w5 W → Ints W v zs → Calls Try.prog 15 #[.pointer (some ⟨b, 0, none⟩), v] W fun e w' => e = .returned (.bool x) ∧ w' = W
  refAcc : ∀ W, Below w5.heap.size w5 W → Calls Try.prog 22 #[.pointer (some ⟨o, 0, none⟩), vl] W fun e w' => e = .returned (.bool x) ∧ Below w5.heap.size w5 w'
  run : ∀ W, Below w5.heap.size w5 W → Calls Try.prog 16 #[.pointer (some ⟨b, 0, none⟩), .string t] W fun e w' => e = .returned (.bool y) ∧ Below w5.heap.size w5 w'
  refRun : ∀ W, Below w5.heap.size w5 W → Calls Try.prog 23 #[.pointer (some ⟨o, 0, none⟩), .string t] W fun e w' => e = .returned (.bool y) ∧ Below w5.heap.size w5 w'
  lenA : A.length ≤ 1000000
  lenD : D.length ≤ 1000000

theorem both_any {w5 : World} {b o : Nat} {vl : Value} {zs : List Int} (c : UInt8) (t : ByteArray) {P : List UInt8} {f : Bool} (hb : NfaAt w5 b P f) (ho : RefAt w5 o P f) (hv : Ints w5 vl zs) (hP : P.length ≤ 255) (hns : noSt P) (hz : zs.length ≤ 1000000) (ht : t.size ≤ 1000000) :
    ∃ A D x y, Both w5 b o vl c t P A D zs (str P) x y := by
  have hbl := hb.lt
  have hol := ho.lt
  have go : ∀ {W W' : World}, Below w5.heap.size w5 W → Below W.heap.size W W' → Below w5.heap.size w5 W' := fun h k => h.trans (k.mono h.size)
  refine ⟨intsF (P.length + 1) (startF (cntL f P)), intsF (P.length + 1) (stepF (cntL f P) (cntC f c) (inL zs)), inL zs P.length, mt f P t.data.toList, ⟨?_, ?_, ?_, ?_, ?_, ?_, ?_, ?_, ?_, ?_, ?_, ?_, ?_⟩⟩
  · intro W h
    rw [str_size]
    exact sizes_any (hb.below h hbl) (by omega)
  · intro W h
    exact (start_any (hb.below h hbl) (by omega) hns).mono fun e w' ⟨v, he, hi, hw⟩ => ⟨v, he, hi, go h hw⟩
  · intro W v h hi
    have := refStart_any (ho.below h hol) (by omega)
    have e : intsF (P.length + 1) (startF P) = intsF (P.length + 1) (startF (cntL f P)) := intsF_congr (fun i _ => (clo_cnt f P _ i).symm)
    rw [e] at this
    exact this.mono fun e w' ⟨v2, he, hi2, hw⟩ => ⟨v2, he, hi2, hi.below hw, go h hw⟩
  · intro W v v2 ys h h1 h2 hl
    have := same_any h1 h2 hl
    rw [show (ys == ys) = true by simp] at this
    exact this.mono fun e w' ⟨he, hw⟩ => ⟨he, go h hw⟩
  · intro W h
    exact (own_any (hv.below h) hz).mono fun e w' ⟨v, he, hi, hw⟩ => ⟨v, he, hi.ints, go h hw⟩
  · intro W v h hi
    exact (take_any (hb.below h hbl) (by omega) hns hi hz c).mono fun e w' ⟨v2, he, hi2, hw⟩ => ⟨v2, he, hi2, go h hw⟩
  · intro W v h hi
    exact (refStep_any (ho.below h hol) (by omega) (hv.below h) hz c).mono fun e w' ⟨v2, he, hi2, hw⟩ => ⟨v2, he, hi2, hi.below hw, go h hw⟩
  · intro W v h hi
    exact accepts_any (hb.below h hbl) hi hz
  · intro W h
    exact (refAccepts_any (ho.below h hol) (hv.below h) hz).mono fun e w' ⟨he, hw⟩ => ⟨he, go h hw⟩
  · intro W h
    exact (run_any (hb.below h hbl) (by omega) hns t ht).mono fun e w' ⟨he, hw⟩ => ⟨he, go h hw⟩
  · intro W h
    exact (refRun_any (ho.below h hol) (by omega) t ht).mono fun e w' ⟨he, hw⟩ => ⟨he, go h hw⟩
  · exact Nat.le_trans (intsF_len _ _) (by omega)
  · exact Nat.le_trans (intsF_len _ _) (by omega)

set_option maxHeartbeats 16000000 in
set_option maxRecDepth 1000000 in
theorem calls_core (p t : ByteArray) (f : Bool) {vl : Value} {zs : List Int} (c : UInt8) (w : World) (hv : Ints w vl zs) (hp : checkN p.size = 0) (ht : t.size ≤ 200) (hz : zs.length ≤ 400) :
    Calls Try.prog 4 #[.string p, .bool f, vl, .int .u8 (c.toNat : Int), .string t] w fun e w' => e = .returned (.bool true) ∧ Below w.heap.size w w' := by
  have hp2 := (check_pos hp).2
  obtain ⟨P, hP⟩ : ∃ P, normP p = P := ⟨_, rfl⟩
  have hPl : P.length ≤ 255 := by rw [← hP]; exact Nat.le_trans (normP_len p) hp2
  have hns : noSt P := by rw [← hP]; exact normP_no p
  have C0 := Lib.hid (lives_any w)
  have CL := Lib.hid (fun w => light_any p t w)
  rw [show (decide (p.size ≤ 300) && decide (t.size ≤ 200)) = true by rw [decide_eq_true (by omega), decide_eq_true ht]; rfl] at CL
  have C1 : Hid (∀ W, Calls Try.prog 8 #[.string p, .bool f] W fun e w' => ∃ b, e = .returned (.tuple #[.pointer (some ⟨b, 0, none⟩), .int .i64 0]) ∧ W.heap.size ≤ b ∧ NfaAt w' b P f ∧ Below W.heap.size W w') := Lib.hid (fun W => by have := new_any p f W hp; rwa [hP] at this)
  have C2 : Hid (∀ W, Calls Try.prog 18 #[.string p, .bool f] W fun e w' => ∃ o, e = .returned (.tuple #[.pointer (some ⟨o, 0, none⟩), .int .i64 0]) ∧ W.heap.size ≤ o ∧ RefAt w' o P f ∧ Below W.heap.size W w') := Lib.hid (fun W => by have := refNew_any p f W hp; rwa [hP] at this)
  have C3 : Hid (∀ W b, NfaAt W b P f → Calls Try.prog 10 #[.pointer (some ⟨b, 0, none⟩)] W fun e w' => e = .returned (.tuple #[.string (str P), .bool f]) ∧ Below W.heap.size W w') := Lib.hid (fun W b h => pattern_any h (by omega))
  have HB : Hid (∀ {w5 : World} {b o : Nat}, NfaAt w5 b P f → RefAt w5 o P f → Ints w5 vl zs → ∃ A D x y, Both w5 b o vl c t P A D zs (str P) x y) := Lib.hid (fun h1 h2 h3 => both_any c t h1 h2 h3 hPl hns (by omega) (by omega))
  obtain ⟨S, hS⟩ : ∃ S, str P = S := ⟨_, rfl⟩
  rw [hS] at C3 HB
  have HS := Lib.hid hS
  obtain ⟨a, cap, rfl, _⟩ := hv.reads
  have hzz : ¬ ((400 : Int) < (zs.length : Int)) := by omega
  replace hv := Lib.hid hv
  clear hP hns hS hp
  go_enter Try.func4, Try.ntmps4
  go_wp2_with (go_at_call 9; refine C0.out.mono ?_; rintro e w1 ⟨rfl, hb1⟩)
  refine (CL.out _).mono ?_
  rintro e w2 ⟨rfl, rfl⟩
  go_wp2_with fail
  refine (C1.out _).mono ?_
  rintro e w3 ⟨b, rfl, _, hn3, hb3⟩
  go_wp2_with fail
  refine (C2.out _).mono ?_
  rintro e w4 ⟨o, rfl, _, ho4, hb4⟩
  have hn4 := hn3.below hb4 hn3.lt
  go_wp2_with fail
  refine (C3.out _ _ hn4).mono ?_
  rintro e w5 ⟨rfl, hb5⟩
  have hn5 := hn4.below hb5 hn4.lt
  have ho5 := ho4.below hb5 ho4.lt
  have hbw := on1 hb1 (on1 (on1 hb3 hb4 (Nat.le_refl _)) hb5 (Nat.le_refl _)) (Nat.le_refl _)
  obtain ⟨A, D, x, y, R⟩ := HB.out hn5 ho5 (hv.out.below hbw)
  have hol5 := ho5.lt
  have RA : Hid (∀ W, Below w5.heap.size w5 W → W.cell? ⟨o, 0, none⟩ = some (.string S) ∧ W.cell? ⟨o, 1, none⟩ = some (.bool f)) := Lib.hid (fun W h => by
    have h2 := ho5.below h hol5
    rw [← HS.out]
    exact ⟨h2.c0, h2.c1⟩)
  have hJ0 : Below w5.heap.size w5 w5.drew := (Below.refl _ _).drew
  obtain ⟨hc0, hc1⟩ := RA.out _ (Below.refl _ _)
  replace R := Lib.hid R
  replace hbw := Lib.hid hbw
  clear hb1 hb3 hb4 hb5 hn3 hn4 hn5 ho4 ho5 C0 C1 C2 C3 CL HB hv
  have hA := R.out.lenA
  have hD := R.out.lenD
  replace hA := Lib.hid hA
  replace hD := Lib.hid hD
  have hSz : S.size ≤ 255 := by rw [← HS.out, str_size]; exact hPl
  have hwr : IntKind.i64.wrap ((S.size : Int) + 1) = (S.size : Int) + 1 := by rw [IntKind.wrap_i64]; omega
  go_wp2
  go_region_held3 (fun w' => w'.cell? ⟨o, 0, none⟩ = some (.string S) ∧ w'.cell? ⟨o, 1, none⟩ = some (.bool f)) (first | exact RA.out _ (by assumption))
    (first
    | (go_at_call 11; refine (R.out.sizes _ (by assumption)).mono ?_; rintro e w6 ⟨rfl, rfl⟩)
    | (go_at_call 13; refine (R.out.start _ (by assumption)).mono ?_; rintro e w6 ⟨v6, rfl, hi6, hj6⟩)
    | (go_at_call 19; refine (R.out.refStart _ v6 (by assumption) (by assumption)).mono ?_; rintro e w7 ⟨v7, rfl, hi7, hi67, hj7⟩)
    | (go_at_call_of 12 v6; refine (R.out.same _ v6 v7 A (by assumption) (by assumption) (by assumption) hA.out).mono ?_; rintro e w8 ⟨rfl, hj8⟩)
    | (go_at_call 20; refine (R.out.own _ (by assumption)).mono ?_; rintro e w9 ⟨v9, rfl, hi9, hj9⟩)
    | (go_at_call 14; refine (R.out.step _ v9 (by assumption) (by assumption)).mono ?_; rintro e w10 ⟨v10, rfl, hi10, hj10⟩)
    | (go_at_call 21; refine (R.out.refStep _ v10 (by assumption) (by assumption)).mono ?_; rintro e w11 ⟨v11, rfl, hi11, hi1011, hj11⟩)
    | (go_at_call_of 12 v10; refine (R.out.same _ v10 v11 D (by assumption) (by assumption) (by assumption) hD.out).mono ?_; rintro e w12 ⟨rfl, hj12⟩)
    | (go_at_call 15; refine (R.out.acc _ _ (by assumption) (by assumption)).mono ?_; rintro e w14 ⟨rfl, rfl⟩)
    | (go_at_call 22; refine (R.out.refAcc _ (by assumption)).mono ?_; rintro e w15 ⟨rfl, hj15⟩)
    | (go_at_call 16; refine (R.out.run _ (by assumption)).mono ?_; rintro e w16 ⟨rfl, hj16⟩)
    | (go_at_call 23; refine (R.out.refRun _ (by assumption)).mono ?_; rintro e w17 ⟨rfl, hj17⟩))
  all_goals
    have hfin := Lib.hid (hbw.out.trans (hj17.mono hbw.out.size))
    go_wp2
    go_ret
    exact ⟨rfl, hfin.out⟩

set_option maxRecDepth 1000000 in
/-- New refuses the glob. -/
theorem calls_not (p t : ByteArray) (f : Bool) {vl : Value} {zs : List Int} (c : Value) (w : World) (hv : Ints w vl zs) (hp : checkN p.size ≠ 0) (hl : p.size ≤ 300) (ht : t.size ≤ 200) (hz : zs.length ≤ 400) :
    Calls Try.prog 4 #[.string p, .bool f, vl, c, .string t] w fun e w' => e = .returned (.bool true) ∧ Below w.heap.size w w' := by
  have C0 := Lib.hid (lives_any w)
  have CL := Lib.hid (fun w => light_any p t w)
  rw [show (decide (p.size ≤ 300) && decide (t.size ≤ 200)) = true by rw [decide_eq_true hl, decide_eq_true ht]; rfl] at CL
  have C1 := Lib.hid (fun W => new_not p f W hp)
  have C2 := Lib.hid (fun W => refNew_not p f W hp)
  obtain ⟨k, hk⟩ : ∃ k, checkN p.size = k := ⟨_, rfl⟩
  rw [hk] at C1 C2 hp
  obtain ⟨a, cap, rfl, _⟩ := hv.reads
  have hzz : ¬ ((400 : Int) < (zs.length : Int)) := by omega
  have hkz : ¬ (k = 0) := hp
  clear hk hp hl ht hv
  go_enter Try.func4, Try.ntmps4
  go_wp2_with (go_at_call 9; refine C0.out.mono ?_; rintro e w1 ⟨rfl, hb1⟩)
  refine (CL.out _).mono ?_
  rintro e w2 ⟨rfl, rfl⟩
  go_wp2_with fail
  refine (C1.out _).mono ?_
  rintro e w3 ⟨rfl, rfl⟩
  go_wp2_with fail
  refine (C2.out _).mono ?_
  rintro e w4 ⟨rfl, rfl⟩
  go_wp2
  go_ret
  exact ⟨rfl, hb1⟩

set_option maxRecDepth 1000000 in
/-- What came in is too much. -/
theorem calls_heavy (p t : ByteArray) (f : Bool) {vl : Value} {zs : List Int} (c : Value) (w : World) (hv : Ints w vl zs) (h : (decide (p.size ≤ 300) && decide (t.size ≤ 200)) = false) :
    Calls Try.prog 4 #[.string p, .bool f, vl, c, .string t] w fun e w' => e = .returned (.bool true) ∧ Below w.heap.size w w' := by
  have C0 := Lib.hid (lives_any w)
  have CL := Lib.hid (fun w => light_any p t w)
  rw [h] at CL
  obtain ⟨a, cap, rfl, _⟩ := hv.reads
  clear h hv
  go_enter Try.func4, Try.ntmps4
  go_wp2_with (go_at_call 9; refine C0.out.mono ?_; rintro e w1 ⟨rfl, hb1⟩)
  refine (CL.out _).mono ?_
  rintro e w2 ⟨rfl, rfl⟩
  go_wp2
  go_ret
  exact ⟨rfl, hb1⟩

set_option maxRecDepth 1000000 in
theorem calls_long (p t : ByteArray) (f : Bool) {vl : Value} {zs : List Int} (c : Value) (w : World) (hv : Ints w vl zs) (hl : p.size ≤ 300) (ht : t.size ≤ 200) (hz : 400 < zs.length) :
    Calls Try.prog 4 #[.string p, .bool f, vl, c, .string t] w fun e w' => e = .returned (.bool true) ∧ Below w.heap.size w w' := by
  have C0 := Lib.hid (lives_any w)
  have CL := Lib.hid (fun w => light_any p t w)
  rw [show (decide (p.size ≤ 300) && decide (t.size ≤ 200)) = true by rw [decide_eq_true hl, decide_eq_true ht]; rfl] at CL
  obtain ⟨a, cap, rfl, _⟩ := hv.reads
  have hzz : (400 : Int) < (zs.length : Int) := by omega
  clear hl ht hv
  go_enter Try.func4, Try.ntmps4
  go_wp2_with (go_at_call 9; refine C0.out.mono ?_; rintro e w1 ⟨rfl, hb1⟩)
  refine (CL.out _).mono ?_
  rintro e w2 ⟨rfl, rfl⟩
  go_wp2
  go_ret
  exact ⟨rfl, hb1⟩

/-- The law, for every input. -/
theorem calls_any (p t : ByteArray) (f : Bool) {vl : Value} {zs : List Int} (c : UInt8) (w : World) (hv : Ints w vl zs) :
    Calls Try.prog 4 #[.string p, .bool f, vl, .int .u8 (c.toNat : Int), .string t] w fun e w' => e = .returned (.bool true) ∧ Below w.heap.size w w' := by
  by_cases h : p.size ≤ 300 ∧ t.size ≤ 200
  · by_cases hz : zs.length ≤ 400
    · by_cases hp : checkN p.size = 0
      · exact calls_core p t f c w hv hp h.2 hz
      · exact calls_not p t f _ w hv hp h.1 h.2 hz
    · exact calls_long p t f _ w hv h.1 h.2 (by omega)
  · refine calls_heavy p t f _ w hv ?_
    by_cases h1 : p.size ≤ 300
    · rw [decide_eq_true h1, decide_eq_false (fun h2 => h ⟨h1, h2⟩)]; rfl
    · rw [decide_eq_false h1]; rfl

open Go.ChangeShapes Go.WideShapes Go.ChangeAt
open Go.ChangeMaps (open_string shut_string)
theorem calls_own : ownKnob Try.prog.godebug = none := by kernel_rfl

set_option maxRecDepth 100000 in
theorem calls_lifted (os : Os) (started : os.Started) (H : Type) (enc : TypeId × Value → H) :
    ReturnsInHanded {} Try.checked os 4 .any (Rows.nfaCallsSpec.pre6 enc Try.prog Try.f4 Rows.nfaCallsRow.domain false) (Rows.nfaCallsSpec.post enc Try.prog Try.f4 false true false false) := by
  refine returnsInHanded_of_change (C := Try.checked) calls_own started (by kernel_rfl) Try.func4
    (ChangeSpec.witness6 (enc := enc) (C := Try.checked) false ⟨#[], #[.string ByteArray.empty, .bool false, .slice none 0 0, .int .u8 0, .string ByteArray.empty], []⟩ 8 (by kernel_rfl) (by kernel_rfl) (by kernel_rfl) (by kernel_rfl)) ?_
  intro W base args ds gs before hval0 hW hcnd _
  have hval : ∀ (j : Nat) t v, Try.f4.params[j]? = some t → args[j]? = some v → Value.okWide Try.prog W .any base t v := hval0
  have hW' := hW
  obtain ⟨p, q, hA0, hV, rfl, hfz, hnd⟩ := hW
  have hA : DataW.TrodAll enc Try.prog W 0 (fun _ => true) true Try.f4.params.toList args.toList ds p := hA0
  rw [Try.params4] at hA hval
  obtain ⟨v0, vs0, d0, ds0, p0, q0, hargs, rfl, rfl, h0, r0⟩ := trodAll_cons hA
  obtain ⟨v1, vs1, d1, ds1, p1, q1, rfl, rfl, rfl, h1, r1⟩ := trodAll_cons r0
  obtain ⟨v2, vs2, d2, ds2, p2, q2, rfl, rfl, rfl, h2, r2⟩ := trodAll_cons r1
  obtain ⟨v3, vs3, d3, ds3, p3, q3, rfl, rfl, rfl, h3, r3⟩ := trodAll_cons r2
  obtain ⟨v4, vs4, d4, ds4, p4, q4, rfl, rfl, rfl, h4, r4⟩ := trodAll_cons r3
  obtain ⟨rfl, rfl, rfl⟩ := trodAll_nil r4
  obtain rfl : args = #[v0, v1, v2, v3, v4] := by cases args; simp_all
  obtain ⟨rfl, rfl⟩ := trodVars_none hV
  obtain ⟨a0, rfl, rfl, rfl, w0⟩ := open_string Try.underlying9 (hval 0 9 v0 rfl rfl) h0
  obtain ⟨a1, rfl, rfl, rfl⟩ := open_bool Try.underlying4 (hval 1 4 v1 rfl rfl) h1
  obtain ⟨a3, rfl, rfl, rfl, w3⟩ := open_int Try.underlying5 (hval 3 5 v3 rfl rfl) h3
  obtain ⟨c3, rfl⟩ := byte_of w3
  obtain ⟨a4, rfl, rfl, rfl, w4⟩ := open_string Try.underlying9 (hval 4 9 v4 rfl rfl) h4
  have hlt2 : ∀ x ∈ p2, x.block < W.heap.size := fun x hx => by simpa using hW'.lt x (by simp [hx])
  obtain ⟨zs2, i2⟩ := open_list (hval 2 31 v2 rfl rfl) h2 hlt2
  clear hA0 hval0
  simp only [List.append_nil] at hW'
  refine (calls_any a0 a4 a1 c3 W i2).mono fun e W' ⟨he, bel⟩ => ?_
  subst he
  exact ⟨_, rfl, _, _, _, [], _, [], hW', trodAll_mk1 (shut_bool Try.underlying4 _), (trodAll_cons_mk (shut_string Try.underlying9 w0) (trodAll_cons_mk (shut_bool Try.underlying4 _) (trodAll_cons_mk (Below.trod laid_out (by kernel_rfl) (of_decide_eq_true (by kernel_rfl)) h2 bel hlt2) (trodAll_cons_mk (shut_int Try.underlying5 w3) (trodAll_cons_mk (shut_string Try.underlying9 w4) trodAll_mk0))))), rfl, bel.frame _, fun h => by cases h⟩

/-- The statement. -/
theorem calls_said : Rows.NfaCallsSaid :=
  OpenClaim.holds_of_wide 4 Try.f4 rfl rfl rfl rfl rfl rfl rfl ⟨rfl, rfl, rfl, rfl, rfl⟩ rfl rfl rfl rfl rfl (by kernel_rfl) Try.func4 (by kernel_rfl)
    (of_decide_eq_true (by kernel_rfl)) (by unfold Func.isWrapper; first | (rw [if_pos (by decide +kernel)]; kernel_rfl) | (rw [if_neg (by decide +kernel)]; exact ⟨rfl, rfl⟩))
    (fun os started H enc _ => calls_lifted os started H enc)
#print axioms calls_said
end Go.Proofs.Ytinhihdceijfaaa
