/-
  What is proved: the laws' helpers lives and light return what they should; and outlawlaw08.NfaNil returns true at any input.
-/
import Derived.Test.YtinhihdceijfaaaNfKit
namespace Go.Proofs.Ytinhihdceijfaaa
open Go.RowKit Go.Shelf

theorem ints_lit (W : World) (zs : List Int) : Ints (W.alloc (.cells (zs.map (Value.int .i64)).toArray 3)) (.slice (some ⟨W.heap.size, 0, none⟩) zs.length zs.length) zs := by
  refine .inr (.inr ⟨W.heap.size, 0, zs.length, rfl, by simp, fun j hj => by
    rw [Nat.zero_add, World.cell?_alloc_new]
    simp [List.getD, hj]⟩)

theorem startAt {w : World} {b : Nat} {P : List UInt8} {f : Bool} {zs : List Int} (ho : NfaAt w b P f) (hP : P.length ≤ 900000) (hns : noSt P) (hz : intsF (P.length + 1) (startF (cntL f P)) = zs) :
    Calls Try.prog 13 #[.pointer (some ⟨b, 0, none⟩)] w fun e w' => ∃ v, e = .returned v ∧ Ints w' v zs ∧ Below w.heap.size w w' := by
  rw [← hz]; exact start_any ho hP hns
theorem stepAt {w : World} {b : Nat} {P : List UInt8} {f : Bool} {v : Value} {zs ys : List Int} (ho : NfaAt w b P f) (hP : P.length ≤ 900000) (hns : noSt P) (hv : Ints w v zs) (hz : zs.length ≤ 1000000) (c : UInt8) (hy : intsF (P.length + 1) (stepF (cntL f P) (cntC f c) (inL zs)) = ys) :
    Calls Try.prog 14 #[.pointer (some ⟨b, 0, none⟩), v, .int .u8 (c.toNat : Int)] w fun e w' => ∃ v', e = .returned v' ∧ Ints w' v' ys ∧ Below w.heap.size w w' := by
  rw [← hy]; exact take_any ho hP hns hv hz c

def p0 : ByteArray := ⟨#[42, 120]⟩

set_option maxHeartbeats 2000000 in
theorem lives_any (w : World) :
    Calls Try.prog 9 #[] w fun e w' => e = .returned (.bool true) ∧ Below w.heap.size w w' := by
  have C1 : Hid (Calls Try.prog 8 #[.string { data := #[42, 120] }, .bool false] w fun e w' => ∃ b, e = .returned (.tuple #[.pointer (some ⟨b, 0, none⟩), .int .i64 0]) ∧ w.heap.size ≤ b ∧ NfaAt w' b [42, 120] false ∧ Below w.heap.size w w') := Lib.hid (by
    have := new_any p0 false w (by decide)
    rwa [show normP p0 = [42, 120] by decide +kernel] at this)
  have hns : Hid (noSt [42, 120]) := Lib.hid (by have := normP_no p0; rwa [show normP p0 = [42, 120] by decide +kernel] at this)
  have C2 : Hid (∀ W b, NfaAt W b [42, 120] false → Calls Try.prog 13 #[.pointer (some ⟨b, 0, none⟩)] W fun e w' => ∃ v, e = .returned v ∧ Ints w' v [0, 1] ∧ Below W.heap.size W w') := Lib.hid (fun W b h => startAt h (by decide) hns.out (by decide +kernel))
  have C3 : Hid (∀ W b v, NfaAt W b [42, 120] false → Ints W v [0, 1] → Calls Try.prog 14 #[.pointer (some ⟨b, 0, none⟩), v, .int .u8 120] W fun e w' => ∃ v', e = .returned v' ∧ Ints w' v' [0, 1, 2] ∧ Below W.heap.size W w') := Lib.hid (fun W b v h hv => stepAt h (by decide) hns.out hv (by decide) 120 (by decide +kernel))
  have C4 : Hid (∀ W v1 v2 (zs : List Int), Ints W v1 zs → Ints W v2 zs → zs.length ≤ 3 → Calls Try.prog 12 #[v1, v2] W fun e w' => e = .returned (.bool true) ∧ Below W.heap.size W w') := Lib.hid (fun W v1 v2 zs h1 h2 h3 => by
    have := same_any h1 h2 (by omega)
    rwa [show (zs == zs) = true by simp] at this)
  go_enter Try.func9, Try.ntmps9
  go_wp2_with fail
  refine C1.out.mono ?_
  rintro e w1 ⟨b, rfl, hb, ho1, hb1⟩
  go_wp2_with fail
  refine (C2.out _ _ ho1).mono ?_
  rintro e w2 ⟨v, rfl, hi2, hb2⟩
  go_wp2_with fail
  refine (C4.out _ _ _ _ (hi2.below ((Below.refl _ _).alloc (Nat.le_refl _) _)) (ints_lit w2 [0, 1]) (by decide)).mono ?_
  rintro e w3 ⟨rfl, hb3⟩
  have hb13 : Below w1.heap.size w1 w3 := (hb2.alloc hb2.size _).trans (hb3.mono (by have := hb2.size; simp; omega))
  have ho3 := ho1.below hb13 ho1.lt
  go_wp2_with fail
  refine (C2.out _ _ ho3).mono ?_
  rintro e w4 ⟨v4, rfl, hi4, hb4⟩
  have hb14 := hb13.trans (hb4.mono hb13.size)
  have ho4 := ho1.below hb14 ho1.lt
  go_wp2_with fail
  refine (C3.out _ _ _ ho4 hi4).mono ?_
  rintro e w5 ⟨v5, rfl, hi5, hb5⟩
  have hb15 := hb14.trans (hb5.mono hb14.size)
  go_wp2_with fail
  refine (C4.out _ _ _ _ (hi5.below ((Below.refl _ _).alloc (Nat.le_refl _) _)) (ints_lit w5 [0, 1, 2]) (by decide)).mono ?_
  rintro e w6 ⟨rfl, hb6⟩
  have hb16 : Below w1.heap.size w1 w6 := (hb15.alloc hb15.size _).trans (hb6.mono (by have := hb15.size; simp; omega))
  have hfin := Lib.hid (hb1.trans (hb16.mono hb1.size))
  clear hb2 hb3 hb4 hb5 hb6 hb13 hb14 hb15 hb16 hi2 hi4 hi5
  go_wp2
  go_ret
  exact ⟨rfl, hfin.out⟩

theorem light_any (p t : ByteArray) (w : World) :
    Calls Try.prog 17 #[.string p, .string t] w fun e w' => e = .returned (.bool (decide (p.size ≤ 300) && decide (t.size ≤ 200))) ∧ w' = w := by
  by_cases hp : p.size ≤ 300
  · have h1 : (p.size : Int) ≤ 300 := by omega
    have HE : Hid (decide (p.size ≤ 300) = true) := Lib.hid (decide_eq_true hp)
    rw [HE.out]
    have HE2 : Hid (decide (t.size ≤ 200) = decide ((t.size : Int) ≤ 200)) := Lib.hid (by
      by_cases h : t.size ≤ 200
      · rw [decide_eq_true h, decide_eq_true (by omega)]
      · rw [decide_eq_false h, decide_eq_false (by omega)])
    rw [HE2.out]
    clear hp
    go_enter Try.func17, Try.ntmps17
    go_wp2
    go_ret
    exact ⟨rfl, rfl⟩
  · have h1 : ¬ ((p.size : Int) ≤ 300) := by omega
    have HE : Hid (decide (p.size ≤ 300) = false) := Lib.hid (decide_eq_false hp)
    rw [HE.out]
    clear hp
    go_enter Try.func17, Try.ntmps17
    go_wp2
    go_ret
    exact ⟨rfl, rfl⟩
end Go.Proofs.Ytinhihdceijfaaa
