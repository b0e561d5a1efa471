/-
  What is proved: what the document's own automaton (package outlawref08) returns: Step, Accepts, Run. What lay in memory before stands as it stood.
-/
import Derived.Test.YtinhihdceijfaaaNfRefB
import Derived.Test.YtinhihdceijfaaaNfRun
namespace Go.Proofs.Ytinhihdceijfaaa
open Go.RowKit Go.Shelf

theorem clo_cnt (f : Bool) (P : List UInt8) (g : Nat → Bool) : ∀ i, clo (cntL f P) g i = clo P g i := by
  intro i
  induction i with
  | zero => rfl
  | succ i ih => simp only [clo]; rw [ih, star_cnt]
theorem goes_cnt (f : Bool) (P : List UInt8) (c : UInt8) (i : Nat) (a : UInt8) (h : P[i]? = some a) : goes (cntL f P) (cntC f c) i = (!isStar P i && (a == 63 || cntC f a == cntC f c)) := by
  have hl : i < P.length := (List.getElem?_eq_some_iff.1 h).1
  unfold goes
  rw [star_cnt, cntL_at, h, cntL_len, decide_eq_true hl]
  have h63 : (some (cntC f a) == some (63 : UInt8)) = (a == 63) := by
    cases f with
    | false => rfl
    | true =>
      show (some (foldC a) == some (63 : UInt8)) = (a == 63)
      rw [← fold63 a]; rfl
  show (true && (!isStar P i && ((some (cntC f a) == some (63 : UInt8)) || (some (cntC f a) == some (cntC f c))))) = _
  rw [h63, Bool.true_and]
  rfl

theorem mv_none {B : List UInt8} {d : UInt8} {l : List Int} {x : Int} (h : ∀ m : Nat, x = (m : Int) → isStar B m = false ∧ goes B d m = false) (i : Nat) : mv B d (inL (l ++ [x])) i = mv B d (inL l) i := by
  have e : ∀ j : Nat, inL (l ++ [x]) j = inL l j ∨ (isStar B j = false ∧ goes B d j = false) := fun j => by
    rw [inL_snoc]
    by_cases ej : x = (j : Int)
    · exact .inr (h j ej)
    · exact .inl (by simp [ej])
  cases i with
  | zero =>
    simp only [mv]
    rcases e 0 with e0 | ⟨e0, _⟩
    · rw [e0]
    · rw [e0]; simp
  | succ j =>
    simp only [mv]
    have h1 : (inL (l ++ [x]) (j + 1) && isStar B (j + 1)) = (inL l (j + 1) && isStar B (j + 1)) := by
      rcases e (j + 1) with e0 | ⟨e0, _⟩
      · rw [e0]
      · rw [e0]; simp
    have h2 : (inL (l ++ [x]) j && goes B d j) = (inL l j && goes B d j) := by
      rcases e j with e0 | ⟨_, e0⟩
      · rw [e0]
      · rw [e0]; simp
    rw [h1, h2]
theorem mv_star {B : List UInt8} {d : UInt8} {l : List Int} {m : Nat} (h : isStar B m = true) (i : Nat) : (if i = m then true else mv B d (inL l) i) = mv B d (inL (l ++ [(m : Int)])) i := by
  have hg := goes_star (c := d) h
  have e : ∀ j : Nat, inL (l ++ [(m : Int)]) j = (inL l j || decide (j = m)) := fun j => by
    rw [inL_snoc]
    congr 1
    by_cases ej : j = m
    · subst ej; simp
    · have : ¬ ((m : Int) = (j : Int)) := by omega
      simp [this, ej]
  cases i with
  | zero =>
    simp only [mv]
    rw [e]
    by_cases e0 : 0 = m
    · subst e0; rw [h]; simp
    · simp [e0]
  | succ j =>
    simp only [mv]
    rw [e, e]
    by_cases e0 : j + 1 = m
    · subst e0; rw [h]; simp
    · by_cases e1 : j = m
      · subst e1; rw [hg]; simp
      · simp [e0, e1]
theorem mv_goes {B : List UInt8} {d : UInt8} {l : List Int} {m : Nat} (h : isStar B m = false) (hg : goes B d m = true) (i : Nat) : (if i = m + 1 then true else mv B d (inL l) i) = mv B d (inL (l ++ [(m : Int)])) i := by
  have e : ∀ j : Nat, inL (l ++ [(m : Int)]) j = (inL l j || decide (j = m)) := fun j => by
    rw [inL_snoc]
    congr 1
    by_cases ej : j = m
    · subst ej; simp
    · have : ¬ ((m : Int) = (j : Int)) := by omega
      simp [this, ej]
  cases i with
  | zero =>
    simp only [mv]
    rw [e]
    by_cases e0 : 0 = m
    · subst e0; rw [h]; simp
    · simp [e0]
  | succ j =>
    simp only [mv]
    rw [e, e]
    by_cases e1 : j = m
    · subst e1; rw [hg]; simp
    · by_cases e0 : j + 1 = m
      · subst e0; rw [h]; simp
      · simp [e0, e1]

set_option maxHeartbeats 8000000 in
set_option maxRecDepth 100000 in
theorem refStep_any {w : World} {o : Nat} {P : List UInt8} {f : Bool} (ho : RefAt w o P f) (hP : P.length ≤ 900000) {v : Value} {zs : List Int} (hv : Ints w v zs) (hz : zs.length ≤ 1000000) (c : UInt8) :
    Calls Try.prog 21 #[.pointer (some ⟨o, 0, none⟩), v, .int .u8 (c.toNat : Int)] w fun e w' => ∃ v', e = .returned v' ∧ Ints w' v' (intsF (P.length + 1) (stepF (cntL f P) (cntC f c) (inL zs))) ∧ Below w.heap.size w w' := by
  obtain ⟨B, hB⟩ : ∃ B, cntL f P = B := ⟨_, rfl⟩
  obtain ⟨d, hd⟩ : ∃ d, cntC f c = d := ⟨_, rfl⟩
  obtain ⟨S, hS⟩ : ∃ S, str P = S := ⟨_, rfl⟩
  have hSz : S.size = P.length := by rw [← hS, str_size]
  have hmk := make_row (P.length + 1) (by omega)
  rw [show ((P.length + 1 : Nat) : Int) = (P.length : Int) + 1 from rfl] at hmk
  rw [← hSz] at hmk
  have c0 := ho.c0
  rw [hS] at c0
  have hol := ho.lt
  have C3 : Hid (∀ (W : World) (s : Nat) (g : Nat → Bool), RefAt W o P f → SetAt W s (P.length + 1) g → Calls Try.prog 39 #[.pointer (some ⟨o, 0, none⟩), .slice (some ⟨s, 0, none⟩) (S.size + 1) (S.size + 1)] W fun e w' =>
      ∃ v, e = .returned v ∧ Ints w' v (intsF (P.length + 1) (clo B g)) ∧ OnlyAt s W.heap.size W w') := Lib.hid (fun W s g h1 h2 => by
    have := on_any h1 hP h2
    rw [hSz]
    refine this.mono ?_
    rintro e w' ⟨v, rfl, how, hon⟩
    refine ⟨v, rfl, ?_, hon⟩
    rw [← hB, intsF_congr (fun i _ => clo_cnt f P g i)]
    exact how.ints)
  have C4 : Hid (∀ (W : World) (a : UInt8), RefAt W o P f → Calls Try.prog 40 #[.pointer (some ⟨o, 0, none⟩), .int .u8 (a.toNat : Int), .int .u8 (c.toNat : Int)] W fun e w' => e = .returned (.bool (cntC f a == d)) ∧ Below W.heap.size W w') := Lib.hid (fun W a h => by
    have := same_ref h a c; rwa [hd] at this)
  have HG : Hid (∀ m (hm : m < S.size), goes B d m = (!isStar P m && (S[m]'hm == 63 || cntC f (S[m]'hm) == d)) ∧ isStar B m = isStar P m ∧ (((S[m]'hm).toNat : Int) == 42) = isStar P m) := Lib.hid (fun m hm => by
    have e := byte_at hS hm
    refine ⟨by rw [← hB, ← hd]; exact goes_cnt f P c m _ e, by rw [← hB]; exact star_cnt f P m, ?_⟩
    unfold isStar; rw [e]; exact byte_beq _ 42)
  have HN : Hid (∀ m : Nat, S.size ≤ m → isStar B m = false ∧ goes B d m = false) := Lib.hid (fun m hm => by
    have hBl : B.length = P.length := by rw [← hB]; exact cntL_len f P
    refine ⟨by unfold isStar; rw [List.getElem?_eq_none (by omega)]; rfl, by unfold goes; rw [decide_eq_false (by omega)]; rfl⟩)
  have HS := Lib.hid hS
  have HZ := Lib.hid hSz
  have hSl : S.size ≤ 900000 := by omega
  have hs0 : Hid (SetAt (w.alloc (.cells (madeCells #[.bool false] (S.size + 1)) 4)) w.heap.size (P.length + 1) (mv B d (inL (zs.take 0)))) := Lib.hid (by
    rw [hSz]
    refine (set_made w (P.length + 1)).congr (fun i _ => ?_)
    rw [List.take_zero]
    cases i <;> simp [mv, inL])
  have hb0 := Lib.hid ((Below.refl w.heap.size w).alloc (Nat.le_refl _) (.cells (madeCells #[.bool false] (S.size + 1)) 4))
  obtain ⟨a, cap, rfl, hcell⟩ := hv.reads
  rw [hB, hd]
  replace ho := Lib.hid ho
  clear hB hd hS hSz hv
  go_enter Try.func21, Try.ntmps21
  go_wp2
  go_loopg [8, 9] zs.length (fun gk s8 s9 wr => ∃ k : Nat, k + gk = zs.length ∧ s8 = .int .i64 k ∧ Hid (SetAt wr w.heap.size (P.length + 1) (mv B d (inL (zs.take k)))) ∧ Hid (Below w.heap.size w wr))
  case atStart => exact ⟨0, by omega, rfl, hs0, hb0⟩
  case round =>
    obtain ⟨k, hkg, rfl, HR, HB⟩ := hrel
    clear hs0 hb0
    cases gk with
    | zero =>
      have hkz : ¬ ((k : Int) < (zs.length : Int)) := by omega
      have hkt : zs.take k = zs := List.take_of_length_le (by omega)
      have hs1 := HR.out
      rw [hkt] at hs1
      have C5 := Lib.hid (C3.out _ _ _ (ho.out.below HB.out hol) hs1)
      clear hs1 hkt HR
      go_wp2_with (go_at_call 39; refine C5.out.mono ?_; rintro e w3 ⟨v', rfl, hi3, hon⟩)
      go_ret
      exact ⟨v', rfl, hi3, HB.out.trans (hon.below (Nat.le_refl _) HB.out.size)⟩
    | succ g' =>
      have hkz : (k : Int) < (zs.length : Int) := by omega
      have hkn : k < zs.length := by omega
      obtain ⟨b', off, rfl, hc⟩ := hcell.out wr HB.out k hkn
      have hst : Hid (zs.take (k + 1) = zs.take k ++ [zs.getD k 0]) := Lib.hid (take_int zs k hkn)
      obtain ⟨x, hx⟩ : ∃ x, zs.getD k 0 = x := ⟨_, rfl⟩
      rw [hx] at hc hst
      clear hx hcell
      have c02 := (ho.out.below HB.out hol).c0
      rw [HS.out] at c02
      by_cases h0 : x < 0
      · have HR2 : Hid (SetAt wr w.heap.size (P.length + 1) (mv B d (inL (zs.take (k + 1))))) := Lib.hid (HR.out.congr (fun i _ => by
          rw [hst.out]
          exact (mv_none (fun m e => by omega) i).symm))
        go_wp2
        go_roundg g'
        case measure => omega
        case rel => exact ⟨k + 1, by omega, iv (by omega), HR2, HB⟩
      · obtain ⟨m, rfl⟩ : ∃ m : Nat, x = (m : Int) := ⟨x.toNat, by omega⟩
        by_cases hm : m < S.size
        · have hm1 : ¬ ((S.size : Int) ≤ (m : Int)) := by omega
          have hm2 : (m : Int) < (S.size : Int) := by omega
          have hmP : m + 1 < P.length + 1 := by have := HZ.out; omega
          obtain ⟨hg, hsB, hge⟩ := HG.out m hm
          cases hsk : isStar P m with
          | true =>
            rw [hsk] at hge hsB
            have HR2 : Hid (SetAt (wr.setCell ⟨w.heap.size, m, none⟩ (.bool true)) w.heap.size (P.length + 1) (mv B d (inL (zs.take (k + 1))))) := Lib.hid ((HR.out.add m).congr (fun i _ => by
              rw [hst.out]; exact mv_star hsB i))
            have hcc := World.rowIs.cell HR.out (i := m) (by omega)
            have hff := World.rowIs.frozen HR.out m
            clear hg hsB hsk
            go_wp2
            go_roundg g'
            case measure => omega
            case rel => exact ⟨k + 1, by omega, iv (by omega), HR2, Lib.hid (HB.out.setCell (p := ⟨w.heap.size, m, none⟩) (Nat.le_refl _) _)⟩
          | false =>
            rw [hsk] at hge hsB hg
            have hge2 : (((S[m]'hm).toNat : Int) == 63) = (S[m]'hm == 63) := b63 _
            have hcc := World.rowIs.cell HR.out (i := m + 1) hmP
            have hff := World.rowIs.frozen HR.out (m + 1)
            have CS := Lib.hid (C4.out wr (S[m]'hm) (ho.out.below HB.out hol))
            cases h63 : (S[m]'hm == 63) with
            | true =>
              rw [h63] at hge2 hg
              have HR2 : Hid (SetAt (wr.setCell ⟨w.heap.size, m + 1, none⟩ (.bool true)) w.heap.size (P.length + 1) (mv B d (inL (zs.take (k + 1))))) := Lib.hid ((HR.out.add (m + 1)).congr (fun i _ => by
                rw [hst.out]; exact mv_goes hsB hg i))
              clear hg hsB hsk h63
              go_wp2
              go_roundg g'
              case measure => omega
              case rel => exact ⟨k + 1, by omega, iv (by omega), HR2, Lib.hid (HB.out.setCell (p := ⟨w.heap.size, m + 1, none⟩) (Nat.le_refl _) _)⟩
            | false =>
              rw [h63] at hge2 hg
              cases hsm : (cntC f (S[m]'hm) == d) with
              | true =>
                rw [hsm] at hg CS
                have hmv : Hid (∀ i, (if i = m + 1 then true else mv B d (inL (zs.take k)) i) = mv B d (inL (zs.take (k + 1))) i) := Lib.hid (fun i => by
                  rw [hst.out]; exact mv_goes hsB hg i)
                clear hg hsB hsk h63 hsm hcc hff
                go_wp2_with (go_at_call 40; refine CS.out.mono ?_; rintro e w3 ⟨rfl, hb3⟩; have hr3 := HR.out.below hb3 HR.out.lt; have hcc := World.rowIs.cell hr3 (i := m + 1) hmP; have hff := World.rowIs.frozen hr3 (m + 1))
                go_roundg g'
                case measure => omega
                case rel => exact ⟨k + 1, by omega, iv (by omega), Lib.hid ((hr3.add (m + 1)).congr (fun i _ => hmv.out i)), Lib.hid ((HB.out.trans (hb3.mono HB.out.size)).setCell (p := ⟨w.heap.size, m + 1, none⟩) (Nat.le_refl _) _)⟩
              | false =>
                rw [hsm] at hg CS
                have hmv : Hid (∀ i, mv B d (inL (zs.take k)) i = mv B d (inL (zs.take (k + 1))) i) := Lib.hid (fun i => by
                  rw [hst.out]; exact (mv_none (fun j ej => by have : j = m := by omega
                                                               subst this; exact ⟨hsB, hg⟩) i).symm)
                clear hg hsB hsk h63 hsm hcc hff
                go_wp2_with (go_at_call 40; refine CS.out.mono ?_; rintro e w3 ⟨rfl, hb3⟩; have hr3 := HR.out.below hb3 HR.out.lt)
                go_roundg g'
                case measure => omega
                case rel => exact ⟨k + 1, by omega, iv (by omega), Lib.hid (hr3.congr (fun i _ => hmv.out i)), Lib.hid (HB.out.trans (hb3.mono HB.out.size))⟩
        · have hm1 : (S.size : Int) ≤ (m : Int) := by omega
          have HR2 : Hid (SetAt wr w.heap.size (P.length + 1) (mv B d (inL (zs.take (k + 1))))) := Lib.hid (HR.out.congr (fun i _ => by
            rw [hst.out]
            exact (mv_none (fun j e => HN.out j (by omega)) i).symm))
          go_wp2
          go_roundg g'
          case measure => omega
          case rel => exact ⟨k + 1, by omega, iv (by omega), HR2, HB⟩

/-- Accepts. -/
theorem refAccepts_any {w : World} {o : Nat} {P : List UInt8} {f : Bool} (ho : RefAt w o P f) {v : Value} {zs : List Int} (hv : Ints w v zs) (hz : zs.length ≤ 1000000) :
    Calls Try.prog 22 #[.pointer (some ⟨o, 0, none⟩), v] w fun e w' => e = .returned (.bool (inL zs P.length)) ∧ Below w.heap.size w w' := by
  obtain ⟨S, hS⟩ : ∃ S, str P = S := ⟨_, rfl⟩
  have hSz : S.size = P.length := by rw [← hS, str_size]
  have HS := Lib.hid hS
  have HZ := Lib.hid hSz
  have hol := ho.lt
  obtain ⟨R, HR⟩ : ∃ R, Hid (inL zs P.length = R) := ⟨_, Lib.hid rfl⟩
  rw [HR.out]
  obtain ⟨a, cap, rfl, hcell⟩ := hv.reads
  have hb0 := Lib.hid (Below.refl w.heap.size w)
  replace ho := Lib.hid ho
  clear hS hSz hv
  go_enter Try.func22, Try.ntmps22
  go_wp2
  go_loopg [5] zs.length (fun gk s5 wr => ∃ k : Nat, k + gk = zs.length ∧ s5 = .int .i64 k ∧ Hid (inL (zs.take k) P.length = false) ∧ Hid (Below w.heap.size w wr))
  case atStart => exact ⟨0, by omega, rfl, Lib.hid (by simp [inL]), hb0⟩
  case round =>
    obtain ⟨k, hkg, rfl, HI, HB⟩ := hrel
    clear hb0
    cases gk with
    | zero =>
      have hkz : ¬ ((k : Int) < (zs.length : Int)) := by omega
      have hR : Hid (R = false) := Lib.hid (by
        have := HI.out
        rw [List.take_of_length_le (by omega)] at this
        rw [← HR.out, this])
      go_wp2
      go_ret
      exact ⟨ret_bool hR.out.symm, HB.out⟩
    | succ g' =>
      have hkz : (k : Int) < (zs.length : Int) := by omega
      have hkn : k < zs.length := by omega
      have hk0 : (0 : Int) ≤ (k : Int) := by omega
      obtain ⟨b', off, rfl, hc⟩ := hcell.out wr HB.out k hkn
      have hst : Hid (zs.take (k + 1) = zs.take k ++ [zs.getD k 0]) := Lib.hid (take_int zs k hkn)
      have hmem : Hid (zs.getD k 0 ∈ zs) := Lib.hid (getD_mem hkn)
      obtain ⟨x, hx⟩ : ∃ x, zs.getD k 0 = x := ⟨_, rfl⟩
      rw [hx] at hc hst hmem
      clear hx hcell
      have c0 := (ho.out.below HB.out hol).c0
      rw [HS.out] at c0
      by_cases e : x = (S.size : Int)
      · have hR : Hid (R = true) := Lib.hid (by
          rw [← HR.out]
          unfold inL
          rw [List.contains_iff_mem, ← HZ.out, ← e]
          exact hmem.out)
        subst e
        go_wp2
        go_quiet (fail)
        go_wp2
        try rw [Exit.noGoto_ret]
        go_ret
        exact ⟨ret_bool hR.out.symm, below_drewN HB.out _⟩
      · have hne : (x == (S.size : Int)) = false := by simpa using e
        have HI2 : Hid (inL (zs.take (k + 1)) P.length = false) := Lib.hid (by
          rw [hst.out, inL_snoc, HI.out, ← HZ.out]
          simp [e])
        clear e
        go_wp2
        go_quiet (fail)
        go_wp2
        go_roundg g'
        case measure => omega
        case rel => exact ⟨k + 1, by omega, iv (by omega), HI2, Lib.hid (below_drewN HB.out _)⟩

/-- The document's lists of states after the first bytes of a string. -/
structure RefL (t : ByteArray) (f : Bool) (P : List UInt8) (L : Nat → List Int) (m : Bool) : Prop where
  start : ∀ W o, RefAt W o P f → Calls Try.prog 19 #[.pointer (some ⟨o, 0, none⟩)] W fun e w' => ∃ v, e = .returned v ∧ Ints w' v (L 0) ∧ Below W.heap.size W w'
  step : ∀ W o v i (hi : i < t.size), RefAt W o P f → Ints W v (L i) → Calls Try.prog 21 #[.pointer (some ⟨o, 0, none⟩), v, .int .u8 ((t[i]'hi).toNat : Int)] W fun e w' => ∃ v', e = .returned v' ∧ Ints w' v' (L (i + 1)) ∧ Below W.heap.size W w'
  acc : ∀ W o v, RefAt W o P f → Ints W v (L t.size) → Calls Try.prog 22 #[.pointer (some ⟨o, 0, none⟩), v] W fun e w' => e = .returned (.bool m) ∧ Below W.heap.size W w'

theorem refL_any (t : ByteArray) (f : Bool) (P : List UInt8) (hP : P.length ≤ 900000) : ∃ L, RefL t f P L (mt f P t.data.toList) := by
  have hs : ∀ i, startF P i = startF (cntL f P) i := fun i => (clo_cnt f P _ i).symm
  refine ⟨fun i => intsF (P.length + 1) (runF (cntL f P) (cntL f (t.data.toList.take i)) (startF (cntL f P))), ⟨?_, ?_, ?_⟩⟩
  · intro W o h
    have := refStart_any h hP
    simp only [List.take_zero]
    have e : cntL f [] = [] := by cases f <;> rfl
    rw [e]
    rw [intsF_congr (fun i _ => hs i)] at this
    exact this
  · intro W o v i hi h hv
    have := refStep_any h hP hv (Nat.le_trans (intsF_len _ _) (by omega)) (t[i]'hi)
    have e : t.data.toList.take (i + 1) = t.data.toList.take i ++ [t[i]'hi] := by
      rw [List.take_add_one, List.getElem?_eq_getElem (by rw [← Lib.size_eq]; exact hi)]; rfl
    rw [e, cnt_snoc, runF_snoc]
    have e2 : intsF (P.length + 1) (stepF (cntL f P) (cntC f (t[i]'hi)) (inL (intsF (P.length + 1) (runF (cntL f P) (cntL f (t.data.toList.take i)) (startF (cntL f P)))))) = intsF (P.length + 1) (stepF (cntL f P) (cntC f (t[i]'hi)) (runF (cntL f P) (cntL f (t.data.toList.take i)) (startF (cntL f P)))) :=
      intsF_congr (stepF_congr (fun j hj => inL_ints hj))
    rw [e2] at this
    exact this
  · intro W o v h hv
    have := refAccepts_any h hv (Nat.le_trans (intsF_len _ _) (by omega))
    rw [inL_ints (by omega)] at this
    have hfull : t.data.toList.take t.size = t.data.toList := List.take_of_length_le (by rw [Lib.size_eq]; omega)
    have he := run_end (cntL f P) (cntL f (t.data.toList.take t.size))
    rw [cntL_len] at he
    rw [he, ← cnt_mt, hfull] at this
    exact this

set_option maxHeartbeats 2000000 in
/-- Run. -/
theorem refRun_any {w : World} {o : Nat} {P : List UInt8} {f : Bool} (ho : RefAt w o P f) (hP : P.length ≤ 900000) (t : ByteArray) (ht : t.size ≤ 1000000) :
    Calls Try.prog 23 #[.pointer (some ⟨o, 0, none⟩), .string t] w fun e w' => e = .returned (.bool (mt f P t.data.toList)) ∧ Below w.heap.size w w' := by
  obtain ⟨L, R⟩ := refL_any t f P hP
  obtain ⟨m, hm⟩ : ∃ m, mt f P t.data.toList = m := ⟨_, rfl⟩
  rw [hm] at R
  rw [hm]
  have hol := ho.lt
  have C1 := Lib.hid (R.start _ _ ho)
  replace R := Lib.hid R
  replace ho := Lib.hid ho
  clear hm
  go_enter Try.func23, Try.ntmps23
  go_wp2_with (go_at_call 19; refine C1.out.mono ?_; rintro e w1 ⟨v, rfl, hi1, hb1⟩; replace hi1 := Lib.hid hi1; replace hb1 := Lib.hid hb1)
  go_loopg [5, 6] t.size (fun gk s5 s6 wr => ∃ k : Nat, k + gk = t.size ∧ s6 = .int .i64 k ∧ Hid (Ints wr s5 (L k)) ∧ Hid (Below w.heap.size w wr))
  case atStart => exact ⟨0, by omega, rfl, hi1, hb1⟩
  case round =>
    obtain ⟨k, hkg, rfl, HI, HB⟩ := hrel
    clear hi1 hb1
    cases gk with
    | zero =>
      have hkz : ¬ ((k : Int) < (t.size : Int)) := by omega
      have hke : k = t.size := by omega
      have hi2 := HI.out
      rw [hke] at hi2
      have C2 := Lib.hid (R.out.acc _ _ _ (ho.out.below HB.out hol) hi2)
      clear hke hi2 HI
      go_wp2_with (go_at_call 22; refine C2.out.mono ?_; rintro e w3 ⟨rfl, hb3⟩)
      go_ret
      exact ⟨rfl, HB.out.trans (hb3.mono HB.out.size)⟩
    | succ g' =>
      have hkz : (k : Int) < (t.size : Int) := by omega
      have hkn : k < t.size := by omega
      have C2 := Lib.hid (R.out.step _ _ _ k hkn (ho.out.below HB.out hol) HI.out)
      clear HI
      go_wp2_with (go_at_call 21; refine C2.out.mono ?_; rintro e w3 ⟨v3, rfl, hi3, hb3⟩; replace hi3 := Lib.hid hi3)
      go_roundg g'
      case measure => omega
      case rel => exact ⟨k + 1, by omega, iv (by omega), hi3, Lib.hid (HB.out.trans (hb3.mono HB.out.size))⟩
end Go.Proofs.Ytinhihdceijfaaa
