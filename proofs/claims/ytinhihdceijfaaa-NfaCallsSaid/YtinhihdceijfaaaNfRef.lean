/-
  What is proved: what the document's own automaton (package outlawref08) returns: New, on, Start, same. What lay in memory before stands as it stood, but for the row that on fills.
-/
import Derived.Test.YtinhihdceijfaaaNfJoins
import Derived.Test.YtinhihdceijfaaaGlRefN
namespace Go.Proofs.Ytinhihdceijfaaa
open Go.RowKit Go.Shelf

def RefAt (W : World) (o : Nat) (P : List UInt8) (f : Bool) : Prop := W.heap[o]? = some (.cells #[.string (str P), .bool f] 41 (0, 0))
theorem RefAt.lt {W : World} {o : Nat} {P : List UInt8} {f : Bool} (h : RefAt W o P f) : o < W.heap.size := (Array.getElem?_eq_some_iff.1 h).1
theorem RefAt.below {W W' : World} {o B : Nat} {P : List UInt8} {f : Bool} (h : RefAt W o P f) (hb : Below B W W') (hlt : o < B) : RefAt W' o P f := (hb.block o hlt).trans h
theorem RefAt.same {W W' : World} {o : Nat} {P : List UInt8} {f : Bool} (h : RefAt W o P f) (e : W'.heap[o]? = W.heap[o]?) : RefAt W' o P f := e.trans h
theorem RefAt.c0 {W : World} {o : Nat} {P : List UInt8} {f : Bool} (h : RefAt W o P f) : W.cell? ⟨o, 0, none⟩ = some (.string (str P)) := by simp [World.cell?, show W.heap[o]? = _ from h]
theorem RefAt.c1 {W : World} {o : Nat} {P : List UInt8} {f : Bool} (h : RefAt W o P f) : W.cell? ⟨o, 1, none⟩ = some (.bool f) := by simp [World.cell?, show W.heap[o]? = _ from h]
theorem ref_ne {W : World} {o s n : Nat} {P : List UInt8} {f : Bool} {g : Nat → Bool} (h : RefAt W o P f) (k : SetAt W s n g) : o ≠ s := by
  intro e
  subst e
  obtain ⟨c, hc, _⟩ := k
  rw [show W.heap[o]? = _ from h] at hc
  simp at hc

theorem refNew_not (p : ByteArray) (f : Bool) (w : World) (h : checkN p.size ≠ 0) :
    Calls Try.prog 18 #[.string p, .bool f] w fun e w' => e = .returned (.tuple #[.pointer none, .int .i64 (checkN p.size)]) ∧ w' = w := by
  have C := Lib.hid (refCheck p w)
  obtain ⟨k, hk⟩ : ∃ k, checkN p.size = k := ⟨_, rfl⟩
  rw [hk] at C h
  rw [hk]
  clear hk
  go_enter Try.func18, Try.ntmps18
  go_wp2_with (go_at_call 37; refine C.out.mono ?_; rintro e w' ⟨rfl, rfl⟩)
  go_ret2
  exact ⟨rfl, rfl⟩

theorem refNew_any (p : ByteArray) (f : Bool) (w : World) (h : checkN p.size = 0) :
    Calls Try.prog 18 #[.string p, .bool f] w fun e w' => ∃ o, e = .returned (.tuple #[.pointer (some ⟨o, 0, none⟩), .int .i64 0]) ∧ w.heap.size ≤ o ∧ RefAt w' o (normP p) f ∧ Below w.heap.size w w' := by
  have hsz := (check_pos h).2
  have C := Lib.hid (refCheck p w)
  rw [h] at C
  have C2 := Lib.hid (refNorm p w (by omega))
  have e2 : normL false p.data.toList = normP p := rfl
  rw [e2] at C2
  obtain ⟨P, hP⟩ : ∃ P, normP p = P := ⟨_, rfl⟩
  rw [hP] at C2
  rw [hP]
  clear hP e2 h
  go_enter Try.func18, Try.ntmps18
  go_wp2_with (go_at_call 37; refine C.out.mono ?_; rintro e w' ⟨rfl, rfl⟩)
  refine C2.out.mono ?_
  rintro e w1 ⟨rfl, hb1⟩
  have hr := Lib.hid (show RefAt (w1.alloc (.cells #[.string (str P), .bool f] 41)) w1.heap.size P f from World.alloc_heap_new w1 _)
  have hb2 := Lib.hid (hb1.alloc hb1.size (.cells #[.string (str P), .bool f] 41))
  have hsz1 := hb1.size
  go_wp2
  go_ret2
  exact ⟨_, rfl, hsz1, hr.out, hb2.out⟩

/-- The row while on goes through it: up to k the closure. -/
def mixF (B : List UInt8) (g : Nat → Bool) (k : Nat) : Nat → Bool := fun i => if i ≤ k then clo B g i else g i
theorem mix_stay {B : List UInt8} {g : Nat → Bool} {k : Nat} (h : (clo B g k && isStar B k) = false) (i : Nat) : mixF B g k i = mixF B g (k + 1) i := by
  unfold mixF
  by_cases h1 : i ≤ k
  · rw [if_pos h1, if_pos (by omega)]
  · by_cases h2 : i = k + 1
    · subst h2
      rw [if_neg h1, if_pos (Nat.le_refl _)]
      simp only [clo]
      rw [h, Bool.or_false]
    · rw [if_neg h1, if_neg (by omega)]
theorem mix_star {B : List UInt8} {g : Nat → Bool} {k : Nat} (h : (clo B g k && isStar B k) = true) (i : Nat) : (if i = k + 1 then true else mixF B g k i) = mixF B g (k + 1) i := by
  unfold mixF
  by_cases h2 : i = k + 1
  · subst h2
    rw [if_pos rfl, if_pos (Nat.le_refl _)]
    simp only [clo]
    rw [h, Bool.or_true]
  · rw [if_neg h2]
    by_cases h1 : i ≤ k
    · rw [if_pos h1, if_pos (by omega)]
    · rw [if_neg h1, if_neg (by omega)]
theorem mix_at (B : List UInt8) (g : Nat → Bool) (k : Nat) : mixF B g k k = clo B g k := if_pos (Nat.le_refl _)
theorem mix_zero (B : List UInt8) (g : Nat → Bool) (i : Nat) : g i = mixF B g 0 i := by
  unfold mixF
  by_cases h : i ≤ 0
  · have : i = 0 := by omega
    subst this; rfl
  · rw [if_neg h]
theorem intsF_succ (n : Nat) (g : Nat → Bool) : intsF (n + 1) g = intsF n g ++ if g n then [(n : Int)] else [] := by
  unfold intsF
  rw [listF_succ, List.map_append]
  cases g n <;> rfl

theorem byte_at {l : List UInt8} {s : ByteArray} (hs : str l = s) {i : Nat} (hi : i < s.size) : l[i]? = some (s[i]'hi) := by
  have e : l = s.data.toList := by rw [← hs, str_data]
  rw [e, List.getElem?_eq_getElem (by rw [← Lib.size_eq]; exact hi)]; rfl

set_option maxHeartbeats 4000000 in
theorem on_any {w : World} {o s : Nat} {P : List UInt8} {f : Bool} {g : Nat → Bool} (ho : RefAt w o P f) (hP : P.length ≤ 900000) (hs : SetAt w s (P.length + 1) g) :
    Calls Try.prog 39 #[.pointer (some ⟨o, 0, none⟩), .slice (some ⟨s, 0, none⟩) (P.length + 1) (P.length + 1)] w fun e w' =>
      ∃ v, e = .returned v ∧ OwnI w' w.heap.size v (intsF (P.length + 1) (clo P g)) ∧ OnlyAt s w.heap.size w w' := by
  have hos := ref_ne ho hs
  have hol := ho.lt
  have hsl := hs.lt
  obtain ⟨S, hS⟩ : ∃ S, str P = S := ⟨_, rfl⟩
  have hSz : S.size = P.length := by rw [← hS, str_size]
  have HS := Lib.hid hS
  have HZ := Lib.hid hSz
  have hs0 : Hid (SetAt w s (P.length + 1) (mixF P g 0)) := Lib.hid (hs.congr (fun i _ => mix_zero P g i))
  have hon0 := Lib.hid (OnlyAt.refl s w.heap.size w)
  have hown0 : Hid (OwnI w w.heap.size (.slice none 0 0) (intsF 0 (clo P g))) := Lib.hid (World.ownsRow_nil _ _ _ _)
  have hPz : ((P.length : Int) + 1) = ((P.length + 1 : Nat) : Int) := rfl
  clear hs hS hSz hPz
  go_enter Try.func39, Try.ntmps39
  go_wp2
  go_loopg [5, 6] (P.length + 1) (fun gk s5 s6 wr => ∃ (k : Nat) (v : Value), k + gk = P.length + 1 ∧ s5 = v ∧ s6 = .int .i64 k ∧ Hid (OwnI wr w.heap.size v (intsF k (clo P g))) ∧ Hid (SetAt wr s (P.length + 1) (mixF P g k)) ∧ Hid (OnlyAt s w.heap.size w wr))
  case atStart => exact ⟨0, _, by omega, rfl, rfl, hown0, hs0, hon0⟩
  case round =>
    obtain ⟨k, v, hkg, rfl, rfl, HO, HM, HW⟩ := hrel
    clear hown0 hs0 hon0
    cases gk with
    | zero =>
      have hkz : ¬ ((k : Int) < (P.length : Int) + 1) := by omega
      have hke : Hid (k = P.length + 1) := Lib.hid (by omega)
      go_wp2
      go_ret
      obtain rfl := hke.out
      exact ⟨_, rfl, HO.out, HW.out⟩
    | succ g' =>
      have hkz : (k : Int) < (P.length : Int) + 1 := by omega
      have hkn : k < P.length + 1 := by omega
      have hcc := World.rowIs.cell HM.out (i := k) hkn
      rw [mix_at] at hcc
      have c0 := (ho.same (HW.out.block o hol hos)).c0
      rw [HS.out] at c0
      have hwsz := HW.out.size
      cases hb : clo P g k with
      | false =>
        rw [hb] at hcc
        have e2 : intsF (k + 1) (clo P g) = intsF k (clo P g) := by rw [intsF_succ, hb]; simp
        have HO2 := HO
        rw [← e2] at HO2
        clear e2
        have HM2 : Hid (SetAt wr s (P.length + 1) (mixF P g (k + 1))) := Lib.hid (HM.out.congr (fun i _ => mix_stay (by rw [hb]; rfl) i))
        clear hb
        go_wp2
        go_roundg g'
        case measure => omega
        case rel => exact ⟨k + 1, _, by omega, rfl, iv (by omega), HO2, HM2, HW⟩
      | true =>
        rw [hb] at hcc
        have e2 : intsF (k + 1) (clo P g) = intsF k (clo P g) ++ [(k : Int)] := by rw [intsF_succ, hb]; rfl
        have hln := intsF_len k (clo P g)
        have hba : Below wr.heap.size wr (wr.alloc (.cells #[.int .i64 (k : Int)] 3)) := (Below.refl _ _).alloc (Nat.le_refl _) _
        have hoa := HO.out.later hba
        have hlit := ints_lit wr [(k : Int)]
        have hsza : w.heap.size ≤ (wr.alloc (.cells #[.int .i64 (k : Int)] 3)).heap.size := Nat.le_trans hwsz hba.size
        have HM1 := HM.out.below hba HM.out.lt
        have HW1 := HW.out.trans (Below.onlyAt (s := s) (hba.mono hwsz))
        have HR1 := (ho.same (HW.out.block o hol hos)).below (hba.mono hwsz) hol
        clear HO HM HW hba c0
        by_cases hkP : k < P.length
        · have hkS : k < S.size := by rw [HZ.out]; exact hkP
          have hkp : (k : Int) < (S.size : Int) := by omega
          have hst : isStar P k = (S[k]'hkS == 42) := by
            unfold isStar; rw [byte_at HS.out hkS]; rfl
          have hge : (((S[k]'hkS).toNat : Int) == 42) = isStar P k := by rw [hst]; exact byte_beq _ 42
          have hk1 : k + 1 < P.length + 1 := by omega
          clear hst hkP
          cases hsk : isStar P k with
          | true =>
            rw [hsk] at hge
            have hmx : Hid ((clo P g k && isStar P k) = true) := Lib.hid (by rw [hb, hsk]; rfl)
            clear hb hsk
            go_wp2_with (at_builtin; refine appI w.heap.size hoa hlit (by simp; omega) hsza rfl _ _ rfl rfl rfl ?_; intro v2 w2 how2 hg2; rw [← e2] at how2; have hb2 := below_appI (Below.refl _ _) hoa hsza hg2; have c02 := (HR1.below hb2 hol).c0; rw [HS.out] at c02; have hm2 := HM1.below hb2 hsl; have hcs := World.rowIs.cell hm2 (i := k + 1) hk1; have hfs := World.rowIs.frozen hm2 (k + 1))
            go_roundg g'
            case measure => omega
            case rel => exact ⟨k + 1, _, by omega, rfl, iv (by omega), Lib.hid (by
              refine ⟨how2.1, ?_⟩
              rcases how2.2 with h | ⟨g1, cap1, cur1, e1, hB1, hg1, r1⟩
              · exact .inl h
              · exact .inr ⟨g1, cap1, cur1, e1, hB1, (Below.heap_setCell _ _ _ _ (by show g1 ≠ s; omega)).trans hg1, r1⟩), Lib.hid ((hm2.add _).congr (fun i _ => mix_star hmx.out i)), Lib.hid ((HW1.trans (Below.onlyAt hb2)).set _ _)⟩
          | false =>
            rw [hsk] at hge
            have hmx : Hid ((clo P g k && isStar P k) = false) := Lib.hid (by rw [hb, hsk]; rfl)
            clear hb hsk
            go_wp2_with (at_builtin; refine appI w.heap.size hoa hlit (by simp; omega) hsza rfl _ _ rfl rfl rfl ?_; intro v2 w2 how2 hg2; rw [← e2] at how2; have hb2 := below_appI (Below.refl _ _) hoa hsza hg2; have c02 := (HR1.below hb2 hol).c0; rw [HS.out] at c02; have hm2 := HM1.below hb2 hsl)
            go_roundg g'
            case measure => omega
            case rel => exact ⟨k + 1, _, by omega, rfl, iv (by omega), Lib.hid how2, Lib.hid (hm2.congr (fun i _ => mix_stay hmx.out i)), Lib.hid (HW1.trans (Below.onlyAt hb2))⟩
        · have hkp : ¬ ((k : Int) < (S.size : Int)) := by rw [HZ.out]; omega
          have hmx : Hid ((clo P g k && isStar P k) = false) := Lib.hid (by
            have : isStar P k = false := by unfold isStar; rw [List.getElem?_eq_none (by omega)]; rfl
            rw [this, Bool.and_false])
          clear hb hkP
          go_wp2_with (at_builtin; refine appI w.heap.size hoa hlit (by simp; omega) hsza rfl _ _ rfl rfl rfl ?_; intro v2 w2 how2 hg2; rw [← e2] at how2; have hb2 := below_appI (Below.refl _ _) hoa hsza hg2; have c02 := (HR1.below hb2 hol).c0; rw [HS.out] at c02; have hm2 := HM1.below hb2 hsl)
          go_roundg g'
          case measure => omega
          case rel => exact ⟨k + 1, _, by omega, rfl, iv (by omega), Lib.hid how2, Lib.hid (hm2.congr (fun i _ => mix_stay hmx.out i)), Lib.hid (HW1.trans (Below.onlyAt hb2))⟩

/-- Start. -/
theorem refStart_any {w : World} {o : Nat} {P : List UInt8} {f : Bool} (ho : RefAt w o P f) (hP : P.length ≤ 900000) :
    Calls Try.prog 19 #[.pointer (some ⟨o, 0, none⟩)] w fun e w' => ∃ v, e = .returned v ∧ Ints w' v (intsF (P.length + 1) (startF P)) ∧ Below w.heap.size w w' := by
  obtain ⟨S, hS⟩ : ∃ S, str P = S := ⟨_, rfl⟩
  have c0 := ho.c0
  rw [hS] at c0
  have hSz : S.size = P.length := by rw [← hS, str_size]
  have hmk := make_row (P.length + 1) (by omega)
  rw [show ((P.length + 1 : Nat) : Int) = (P.length : Int) + 1 from rfl] at hmk
  rw [← hSz] at hmk
  have hs0 := set_made w (P.length + 1)
  have hcc := World.rowIs.cell hs0 (i := 0) (by omega)
  have hff := World.rowIs.frozen hs0 0
  have hs1 := (hs0.add 0).congr (h := fun i => decide (i = 0)) (fun i _ => by by_cases e : i = 0 <;> simp [e])
  have hB1 : Below w.heap.size w ((w.alloc (.cells (madeCells #[.bool false] (P.length + 1)) 4)).setCell ⟨w.heap.size, 0, none⟩ (.bool true)) := ((Below.refl _ w).alloc (Nat.le_refl _) _).setCell (p := ⟨w.heap.size, 0, none⟩) (Nat.le_refl _) _
  have C2 := Lib.hid (on_any (ho.below hB1 ho.lt) hP hs1)
  rw [← hSz] at C2 hcc hff hB1
  have HZ := Lib.hid hSz
  replace hB1 := Lib.hid hB1
  have hS9 : S.size ≤ 900000 := by omega
  clear hs0 hs1 hS hSz
  go_enter Try.func19, Try.ntmps19
  go_wp2_with fail
  rw [← World.setCell_alloc_new]
  refine C2.out.mono ?_
  rintro e w2 ⟨v, rfl, how, hon⟩
  have hb2 := hB1.out.trans (hon.below (Nat.le_refl _) hB1.out.size)
  go_wp2
  go_ret
  refine ⟨v, rfl, ?_, hb2⟩
  have := how.ints
  rw [HZ.out] at this
  exact this
end Go.Proofs.Ytinhihdceijfaaa
