/-
  What is proved: what glob.Norm and glob.Fold return at any string of at most 1,000,000 bytes: GlMath's normL and foldL. What lay in memory before stands as it stood.
-/
import Derived.Test.YtnpgmekgmelamaaGreatGlBld
import Derived.Test.YtnpgmekgmelamaaGreatGlCode
import Derived.Shelf.Strings.Builder2
namespace Go.Proofs.YtnpgmekgmelamaaGreat
open Go.RowKit

/-- WriteByte, told on lists of bytes. -/
theorem wb (B : Nat) (l : List UInt8) (c : UInt8) (w : World) (h : Lib.IsBuilderF 141 5 B B (Lib.byteCells l) w) (hlen : l.length ≤ 3000000) (hB : B ≤ w.heap.size) :
    Calls Tryz.prog 97 #[.pointer (some ⟨B, 0, none⟩), .int .u8 (c.toNat : Int)] w fun e w' => e = .returned .nilIface ∧ Lib.IsBuilderF 141 5 B B (Lib.byteCells (l ++ [c])) w' ∧ Below B w w' := by
  refine (writeByte_k B B (Lib.byteCells l) (c.toNat : Int) w h (by simp [Lib.byteCells]; omega) hB).mono ?_
  rintro e w' ⟨rfl, h1, h2, _⟩
  refine ⟨rfl, ?_, h2⟩
  rw [Lib.byteCells_append]
  exact Or.inr h1

set_option maxHeartbeats 4000000 in
theorem norm_any (p : ByteArray) (w : World) (hp : p.size ≤ 1000000) :
    Calls Tryz.prog 79 #[.string p] w fun e w' => e = .returned (.string (str (normL false p.data.toList))) ∧ Below w.heap.size w w' := by
  obtain ⟨R, HR⟩ : ∃ R, Hid (normL false p.data.toList = R) := ⟨_, Lib.hid rfl⟩
  rw [HR.out]
  have HF : Hid (Lib.IsBuilderF 141 5 w.heap.size w.heap.size (Lib.byteCells []) (w.alloc (.cells #[.pointer none, .slice none 0 0] 141))) := Lib.hid (Lib.IsBuilderF.of (Lib.fresh_isBuilder _ _ w))
  have HB0 : Hid (Below w.heap.size w (w.alloc (.cells #[.pointer none, .slice none 0 0] 141))) := Lib.hid ((Below.refl _ w).alloc (Nat.le_refl _) _)
  go_enter Tryz.func79, Tryz.ntmps79
  go_wp2
  go_loopg [4, 9] p.size (fun gk s4 s9 wr => ∃ (k : Nat) (b : Bool) (l : List UInt8), k + gk = p.size ∧ s4 = .bool b ∧ s9 = .int .i64 k ∧ l.length ≤ 2 * k ∧ Hid (l ++ normL b (p.data.toList.drop k) = R) ∧ Hid (Lib.IsBuilderF 141 5 w.heap.size w.heap.size (Lib.byteCells l) wr) ∧ Hid (Below w.heap.size w wr))
  case atStart => exact ⟨0, false, [], by omega, rfl, rfl, by simp, HR, HF, HB0⟩
  case round =>
    obtain ⟨k, b, l, hkg, rfl, rfl, hl, HI, HU, HB⟩ := hrel
    cases gk with
    | zero =>
      have hkz : ¬ ((k : Int) < (p.size : Int)) := by omega
      cases b with
      | false =>
        have HE : Hid (R = l) := by
          have := HI.out
          rw [drop_end p k (by omega)] at this
          exact Lib.hid (by rw [← this]; simp [normL])
        have C := Lib.hid (Tryz.Builder_String_any_k w.heap.size w.heap.size l wr HU.out HB.out.size)
        go_wp2_with fail
        refine C.out.mono ?_
        rintro e w2 ⟨rfl, _, b2, _⟩
        go_wp2
        go_ret
        exact ⟨by rw [HE.out]; rfl, HB.out.trans b2⟩
      | true =>
        have HE : Hid (R = l ++ [42]) := by
          have := HI.out
          rw [drop_end p k (by omega)] at this
          exact Lib.hid (by rw [← this]; simp [normL])
        have C1 := Lib.hid (wb w.heap.size l 42 wr HU.out (by omega) HB.out.size)
        go_wp2_with fail
        refine C1.out.mono ?_
        rintro e w2 ⟨rfl, u2, b2⟩
        have C := Lib.hid (Tryz.Builder_String_any_k w.heap.size w.heap.size (l ++ [42]) w2 u2 (by have := b2.size; have := HB.out.size; omega))
        go_wp2_with fail
        refine C.out.mono ?_
        rintro e w3 ⟨rfl, _, b3, _⟩
        go_wp2
        go_ret
        exact ⟨by rw [HE.out]; rfl, (HB.out.trans b2).trans b3⟩
    | succ g' =>
      have hlt : k < p.size := by omega
      have hkz : (k : Int) < (p.size : Int) := by omega
      have hd := drop_at p k hlt
      obtain ⟨c, hc⟩ : ∃ c : UInt8, p[k]'hlt = c := ⟨_, rfl⟩
      have hI := HI.out
      rw [hd, hc] at hI
      clear hd
      by_cases h42 : c = 42
      · have e42 : ((p[k]'hlt).toNat : Int) = 42 := by rw [hc, h42]; rfl
        have HN : Hid (l ++ normL true (p.data.toList.drop (k + 1)) = R) := Lib.hid (by rw [← hI, h42]; simp [normL])
        clear hI hc h42
        go_wp2
        go_roundg g'
        case measure => omega
        case rel => exact ⟨k + 1, true, l, by omega, rfl, iv (by omega), by omega, HN, HU, HB⟩
      · have e42 : (((p[k]'hlt).toNat : Int) == 42) = false := by
          rw [hc, show (42 : Int) = ((42 : UInt8).toNat : Int) from rfl, byte_beq]; simpa using h42
        have hcc : Value.int .u8 ((p[k]'hlt).toNat : Int) = Value.int .u8 (c.toNat : Int) := by rw [hc]
        by_cases h63 : c = 63
        · have e63 : ((p[k]'hlt).toNat : Int) = 63 := by rw [hc, h63]; rfl
          have HN : Hid ((l ++ [63]) ++ normL b (p.data.toList.drop (k + 1)) = R) := Lib.hid (by rw [← hI, h63]; simp [normL])
          have C1 := Lib.hid (wb w.heap.size l 63 wr HU.out (by omega) HB.out.size)
          clear hI hc h42 h63 hcc
          cases b
          all_goals
            go_wp2_with fail
            refine C1.out.mono ?_
            rintro e w2 ⟨rfl, u2, b2⟩
            go_wp2
            go_roundg g'
            case measure => omega
            case rel => exact ⟨k + 1, _, l ++ [63], by omega, rfl, iv (by omega), by simp; omega, HN, Lib.hid u2, Lib.hid (HB.out.trans b2)⟩
        · have e63 : ((c.toNat : Int) == 63) = false := by
            rw [show (63 : Int) = ((63 : UInt8).toNat : Int) from rfl, byte_beq]; simpa using h63
          have e63' : ((c.toNat : Int) != 63) = true := by rw [bne, e63]; rfl
          rw [hc] at e42
          clear hcc
          cases b with
          | false =>
            have HN : Hid ((l ++ [c]) ++ normL false (p.data.toList.drop (k + 1)) = R) := Lib.hid (by rw [← hI]; simp [normL, h42])
            have C1 := Lib.hid (wb w.heap.size l c wr HU.out (by omega) HB.out.size)
            clear hI h42 h63
            go_wp2_with fail
            refine C1.out.mono ?_
            rintro e w2 ⟨rfl, u2, b2⟩
            go_wp2
            go_roundg g'
            case measure => omega
            case rel => exact ⟨k + 1, false, l ++ [c], by omega, rfl, iv (by omega), by simp; omega, HN, Lib.hid u2, Lib.hid (HB.out.trans b2)⟩
          | true =>
            have HN : Hid ((l ++ [42] ++ [c]) ++ normL false (p.data.toList.drop (k + 1)) = R) := Lib.hid (by rw [← hI]; simp [normL, h42, h63])
            have C1 := Lib.hid (wb w.heap.size l 42 wr HU.out (by omega) HB.out.size)
            have C2 := Lib.hid (fun w2 u2 hb => wb w.heap.size (l ++ [42]) c w2 u2 (by simp; omega) hb)
            clear hI h42 h63
            go_wp2_with fail
            refine C1.out.mono ?_
            rintro e w2 ⟨rfl, u2, b2⟩
            go_wp2_with fail
            refine (C2.out w2 u2 (by have := b2.size; have := HB.out.size; omega)).mono ?_
            rintro e w3 ⟨rfl, u3, b3⟩
            go_wp2
            go_roundg g'
            case measure => omega
            case rel => exact ⟨k + 1, false, l ++ [42] ++ [c], by omega, rfl, iv (by omega), by simp; omega, HN, Lib.hid u3, Lib.hid ((HB.out.trans b2).trans b3)⟩

set_option maxHeartbeats 4000000 in
theorem fold_any (s : ByteArray) (w : World) (hs : s.size ≤ 1000000) :
    Calls Tryz.prog 70 #[.string s] w fun e w' => e = .returned (.string (str (foldL s.data.toList))) ∧ Below w.heap.size w w' := by
  obtain ⟨R, HR⟩ : ∃ R, Hid (foldL s.data.toList = R) := ⟨_, Lib.hid rfl⟩
  rw [HR.out]
  have CG := Lib.hid (Tryz.Builder_Grow_fresh w.heap.size w.heap.size s.size (w.alloc (.cells #[.pointer none, .slice none 0 0] 141)) (Nat.le_refl _) (heap_alloc_new w _) (by simp) (by omega))
  have HB0 : Hid (Below w.heap.size w (w.alloc (.cells #[.pointer none, .slice none 0 0] 141))) := Lib.hid ((Below.refl _ w).alloc (Nat.le_refl _) _)
  go_enter Tryz.func70, Tryz.ntmps70
  go_wp2_with fail
  refine CG.out.mono ?_
  rintro e w1 ⟨rfl, u1, b1⟩
  go_wp2
  go_loopg [10] s.size (fun gk s10 wr => ∃ (k : Nat) (l : List UInt8), k + gk = s.size ∧ s10 = .int .i64 k ∧ l.length = k ∧ Hid (l ++ foldL (s.data.toList.drop k) = R) ∧ Hid (Lib.IsBuilderF 141 5 w.heap.size w.heap.size (Lib.byteCells l) wr) ∧ Hid (Below w.heap.size w wr))
  case atStart => exact ⟨0, [], by omega, rfl, rfl, HR, Lib.hid (Or.inr (Lib.BuilderAtF.of u1)), Lib.hid (HB0.out.trans b1)⟩
  case round =>
    obtain ⟨k, l, hkg, rfl, hl, HI, HU, HB⟩ := hrel
    cases gk with
    | zero =>
      have hkz : ¬ ((k : Int) < (s.size : Int)) := by omega
      have HE : Hid (R = l) := by
        have := HI.out
        rw [drop_end s k (by omega)] at this
        exact Lib.hid (by rw [← this]; simp [foldL])
      have C := Lib.hid (Tryz.Builder_String_any_k w.heap.size w.heap.size l wr HU.out HB.out.size)
      go_wp2_with fail
      refine C.out.mono ?_
      rintro e w2 ⟨rfl, _, b2, _⟩
      go_wp2
      go_ret
      exact ⟨by rw [HE.out]; rfl, HB.out.trans b2⟩
    | succ g' =>
      have hlt : k < s.size := by omega
      have hkz : (k : Int) < (s.size : Int) := by omega
      have HN : Hid ((l ++ [foldC (s[k]'hlt)]) ++ foldL (s.data.toList.drop (k + 1)) = R) := Lib.hid (by rw [← HI.out, drop_at s k hlt]; simp [foldL])
      have C1 := Lib.hid (foldByte_any (s[k]'hlt) wr)
      have C2 := Lib.hid (wb w.heap.size l (foldC (s[k]'hlt)) wr HU.out (by omega) HB.out.size)
      go_wp2_with fail
      refine C1.out.mono ?_
      rintro e w2 ⟨rfl, rfl⟩
      go_wp2_with fail
      refine C2.out.mono ?_
      rintro e w3 ⟨rfl, u3, b3⟩
      go_wp2
      go_roundg g'
      case measure => omega
      case rel => exact ⟨k + 1, l ++ [foldC (s[k]'hlt)], by omega, iv (by omega), by simp; omega, HN, Lib.hid u3, Lib.hid (HB.out.trans b3)⟩
end Go.Proofs.YtnpgmekgmelamaaGreat
