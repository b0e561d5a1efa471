/-
  What is proved: scan.Quote at the text a, 10, " returns its literal and no error, so that outlawlaw01.lives returns true; what lay in memory before stands as it stood. No conditions.
-/
import Derived.Test.YtobdogkdlopifaaRRDoorRRBld
import Derived.WalkLawsBesides
import Derived.WalkSpells
import Derived.Outline
namespace Go.Proofs.YtobdogkdlopifaaRRDoorRR
open Go.RowKit

theorem broken_no (s : ByteArray) (r : Int) (w : World) (h : (r == 65533) = false) :
    Calls Tryd.prog 20 #[.string s, .int .i32 r] w fun e w' => e = .returned (.bool false) ∧ w = w' := by
  go_enter Tryd.func20, Tryd.ntmps20
  go_wp2
  go_ret
  exact ⟨rfl, rfl⟩

set_option maxHeartbeats 1000000 in
/-- A text of bytes below 128 is valid. -/
theorem valid_ascii (s : ByteArray) (w : World) (ha : ∀ (i : Nat) (h : i < s.size), (s[i]'h).toNat < 128) :
    Calls Tryd.prog 13 #[.string s] w fun e w' => e = .returned (.bool true) ∧ Below w.heap.size w w' := by
  have HA := Lib.hid ha
  clear ha
  go_enter Tryd.func13, Tryd.ntmps13
  go_wp2
  go_loopw [] (fun wr => ∃ pos : Nat, wr.heap[w.heap.size]? = some (.stringIter s pos) ∧ pos ≤ s.size ∧ Below w.heap.size w wr) (fun wr => s.size - wr.iterPos w.heap.size)
  case atStart => exact ⟨0, World.iter_heap w s 0, Nat.zero_le _, (Below.refl _ w).alloc (Nat.le_refl _) _⟩
  case round =>
    obtain ⟨pos, hit, hps, hbw⟩ := hrel
    by_cases hp : pos < s.size
    · have hnx : ∀ ty, (Instr.next (.pointer (some ⟨w.heap.size, 0, none⟩)) true ty).run Tryd.prog wr = _ := fun ty => Lib.run_next_ascii_at wr w.heap.size s pos ty hit hp (HA.out pos hp)
      have hit2 := Lib.iterAt_heap wr w.heap.size s pos (pos + 1) hit
      have hbw2 := Lib.below_iterAt hbw (k := w.heap.size) (by omega) s (pos + 1)
      have hlt := HA.out pos hp
      have hb : (((s[pos]'hp).toNat : Int) == 65533) = false := by simp; omega
      go_wp2_with (go_at_call 20; refine (broken_no _ _ _ hb).mono ?_; rintro e w' ⟨rfl, rfl⟩)
      go_roundw
      case rel => exact ⟨pos + 1, hit2, by omega, hbw2⟩
      case measure =>
        simp only [World.iterPos, hit2, hit]
        omega
    · have hnx : ∀ ty, (Instr.next (.pointer (some ⟨w.heap.size, 0, none⟩)) true ty).run Tryd.prog wr = _ := fun ty => Lib.run_next_end_at wr w.heap.size s pos ty hit hp
      go_wp2
      go_ret
      exact ⟨rfl, hbw⟩

/-- What one call adds to the builder. -/
def Adds (b : Nat) (B : Nat) (bs add : List Value) (w : World) (e : Ending) (w' : World) : Prop :=
  e = .returned (.tuple #[]) ∧ Lib.IsBuilderF 40 5 B b (bs ++ add) w' ∧ Below B w w' ∧ Lib.OthersKept 5 (some b) w w'

set_option maxHeartbeats 1000000 in
/-- A letter goes in as it is. -/
theorem writeQuoted_a (B b : Nat) (bs : List Value) (w : World) (h : Lib.IsBuilderF 40 5 B b bs w) (hlen : bs.length + 10 ≤ 140737488355328) (hBw : B ≤ w.heap.size) :
    Calls Tryd.prog 15 #[.pointer (some ⟨b, 0, none⟩), .int .i32 97] w (Adds b B bs [.int .u8 97] w) := by
  have C1 := Lib.hid (Tryd.strings_IndexRune_ascii ⟨#[8, 12, 10, 13, 9]⟩ 97 w (by decide) (by decide))
  have C2 := Lib.hid (writeRune_k B b bs 97 (by decide) (by decide) w h (by omega) hBw)
  have E : Hid (Lib.indexByte (⟨#[8, 12, 10, 13, 9]⟩ : ByteArray).data.toList (97 : Int).toNat.toUInt8 = -1) := Lib.hid (by decide)
  have E2 : Hid (Lib.runeCells 97 = [.int .u8 97]) := Lib.hid (by rfl)
  clear h
  go_enter Tryd.func15, Tryd.ntmps15
  go_wp2_with (first | (go_at_call 22; refine C1.out.mono ?_; rintro e w' ⟨rfl, rfl⟩; rw [E.out]) | (go_at_call 24; refine C2.out.mono ?_; rintro e w1 ⟨rfl, h1, b1, k1⟩))
  go_end0
  exact ⟨rfl, Or.inr (by rw [← E2.out]; exact h1), b1, k1⟩

set_option maxHeartbeats 1000000 in
/-- A line feed goes in as a backslash and n. -/
theorem writeQuoted_n (B b : Nat) (bs : List Value) (w : World) (h : Lib.IsBuilderF 40 5 B b bs w) (hlen : bs.length + 10 ≤ 140737488355328) (hBw : B ≤ w.heap.size) :
    Calls Tryd.prog 15 #[.pointer (some ⟨b, 0, none⟩), .int .i32 10] w (Adds b B bs [.int .u8 92, .int .u8 110] w) := by
  have C1 := Lib.hid (Tryd.strings_IndexRune_ascii ⟨#[8, 12, 10, 13, 9]⟩ 10 w (by decide) (by decide))
  have C2 := Lib.hid (writeByte_k B b bs 92 w h (by omega) hBw)
  have C3 := Lib.hid (fun w1 h1 hw => writeByte_k B b (bs ++ [.int .u8 92]) 110 w1 h1 (by simp; omega) hw)
  have E : Hid (Lib.indexByte (⟨#[8, 12, 10, 13, 9]⟩ : ByteArray).data.toList (10 : Int).toNat.toUInt8 = 2) := Lib.hid (by decide)
  have HB := Lib.hid hBw
  clear h hlen hBw
  go_enter Tryd.func15, Tryd.ntmps15
  go_wp2_with (go_at_call 22; refine C1.out.mono ?_; rintro e w' ⟨rfl, rfl⟩; rw [E.out])
  refine C2.out.mono ?_
  rintro e w1 ⟨rfl, h1, b1, k1⟩
  go_wp2_with fail
  refine (C3.out w1 (Or.inr h1) (by have := b1.size; have := HB.out; omega)).mono ?_
  rintro e w2 ⟨rfl, h2, b2, k2⟩
  go_wp2
  go_end0
  exact ⟨rfl, Or.inr (by simpa using h2), b1.trans b2, k1.trans k2⟩

set_option maxHeartbeats 1000000 in
/-- A quotation mark goes in behind a backslash. -/
theorem writeQuoted_q (B b : Nat) (bs : List Value) (w : World) (h : Lib.IsBuilderF 40 5 B b bs w) (hlen : bs.length + 10 ≤ 140737488355328) (hBw : B ≤ w.heap.size) :
    Calls Tryd.prog 15 #[.pointer (some ⟨b, 0, none⟩), .int .i32 34] w (Adds b B bs [.int .u8 92, .int .u8 34] w) := by
  have C1 := Lib.hid (Tryd.strings_IndexRune_ascii ⟨#[8, 12, 10, 13, 9]⟩ 34 w (by decide) (by decide))
  have C2 := Lib.hid (writeByte_k B b bs 92 w h (by omega) hBw)
  have C3 := Lib.hid (fun w1 h1 hw => writeRune_k B b (bs ++ [.int .u8 92]) 34 (by decide) (by decide) w1 h1 (by simp; omega) hw)
  have E : Hid (Lib.indexByte (⟨#[8, 12, 10, 13, 9]⟩ : ByteArray).data.toList (34 : Int).toNat.toUInt8 = -1) := Lib.hid (by decide)
  have E2 : Hid (Lib.runeCells 34 = [.int .u8 34]) := Lib.hid (by rfl)
  have HB := Lib.hid hBw
  clear h hlen hBw
  go_enter Tryd.func15, Tryd.ntmps15
  go_wp2_with (go_at_call 22; refine C1.out.mono ?_; rintro e w' ⟨rfl, rfl⟩; rw [E.out])
  refine C2.out.mono ?_
  rintro e w1 ⟨rfl, h1, b1, k1⟩
  go_wp2_with fail
  refine (C3.out w1 (Or.inr h1) (by have := b1.size; have := HB.out; omega)).mono ?_
  rintro e w2 ⟨rfl, h2, b2, k2⟩
  go_wp2
  go_end0
  rw [E2.out] at h2
  exact ⟨rfl, Or.inr (by simpa using h2), b1.trans b2, k1.trans k2⟩

/-- The chapter's example. -/
def exStr : ByteArray := ⟨#[97, 10, 34]⟩
def exPre : Nat → List UInt8
  | 0 => [34]
  | 1 => [34, 97]
  | 2 => [34, 97, 92, 110]
  | _ => [34, 97, 92, 110, 92, 34]

set_option maxHeartbeats 2000000 in
theorem quote_ex (w : World) :
    Calls Tryd.prog 7 #[.string ⟨#[97, 10, 34]⟩] w fun e w' => e = .returned (.tuple #[.string ⟨#[34, 97, 92, 110, 92, 34, 34]⟩, .int .i64 0]) ∧ Below w.heap.size w w' := by
  have hv := Lib.hid (valid_ascii ⟨#[97, 10, 34]⟩ w (by intro i h; match i, h with | 0, _ => exact (by decide : (97 : UInt8).toNat < 128) | 1, _ => exact (by decide : (10 : UInt8).toNat < 128) | 2, _ => exact (by decide : (34 : UInt8).toNat < 128) | (i + 3), h => exact absurd h (by show ¬ i + 3 < 3; omega)))
  go_enter Tryd.func7, Tryd.ntmps7
  go_wp2_with (go_at_call 13; refine hv.out.mono ?_; rintro e w0 ⟨rfl, b0⟩)
  have hf : Lib.IsBuilderF 40 5 w0.heap.size w0.heap.size [] (w0.alloc (.cells #[.pointer none, .slice none 0 0] 40)) := Lib.IsBuilderF.of (Lib.fresh_isBuilder _ _ w0)
  refine (writeByte_k w0.heap.size w0.heap.size [] 34 _ hf (by simp) (by simp)).mono ?_
  rintro e w1 ⟨rfl, h1, b1, k1⟩
  have b2 : Below w0.heap.size w0 w1 := ((Below.refl _ w0).alloc (Nat.le_refl _) _).trans b1
  have hs1 : w0.heap.size < w1.heap.size := by have := b1.size; simp at this; omega
  have BB := Lib.hid (And.intro b0 b2)
  clear b0 b1 b2 k1 hf
  go_wp2
  go_loopw [] (fun wr => ∃ pos : Nat, pos ≤ 3 ∧ Lib.IsBuilderF 40 5 w0.heap.size w0.heap.size (Lib.byteCells (exPre pos)) wr ∧ wr.heap[w1.heap.size]? = some (.stringIter ⟨#[97, 10, 34]⟩ pos) ∧ Below w0.heap.size w0 wr) (fun wr => 3 - wr.iterPos w1.heap.size)
  case atStart => exact ⟨0, by omega, Lib.IsBuilderF.alloc (bs := Lib.byteCells (exPre 0)) (Or.inr h1) _, World.iter_heap w1 _ 0, BB.out.2.alloc (by omega) _⟩
  case round =>
    obtain ⟨pos, hps, hI, hit, hbw⟩ := hrel
    have hsz : w1.heap.size < wr.heap.size := (Array.getElem?_eq_some_iff.1 hit).1
    obtain rfl | rfl | rfl | rfl : pos = 0 ∨ pos = 1 ∨ pos = 2 ∨ pos = 3 := by omega
    · have hnx : ∀ ty, (Instr.next (.pointer (some ⟨w1.heap.size, 0, none⟩)) true ty).run Tryd.prog wr = .ok (.tuple #[.bool true, .int .i64 0, .int .i32 97]) (wr.iterAt w1.heap.size ⟨#[97, 10, 34]⟩ 1) := fun ty => Lib.run_next_ascii_at wr w1.heap.size ⟨#[97, 10, 34]⟩ 0 ty hit (by decide) (by decide)
      have C := Lib.hid (writeQuoted_a w0.heap.size w0.heap.size _ _ (hI.iterAt hit 1) (by simp [exPre, Lib.byteCells]) (by rw [Lib.iterAt_size]; omega))
      have hit2 := Lib.iterAt_heap wr w1.heap.size _ 0 1 hit
      have hbw2 := Lib.below_iterAt hbw (k := w1.heap.size) (by omega) ⟨#[97, 10, 34]⟩ 1
      clear hI hbw
      go_wp2_with (go_at_call 15; refine C.out.mono ?_; rintro e w2 ⟨rfl, h2, b2, k2⟩)
      go_roundw
      case rel => exact ⟨1, by omega, by simpa [exPre, Lib.byteCells] using h2, k2.iter hit2 (by omega), hbw2.trans b2⟩
      case measure =>
        simp only [World.iterPos, k2.iter hit2 (by omega), hit]
        omega
    · have hnx : ∀ ty, (Instr.next (.pointer (some ⟨w1.heap.size, 0, none⟩)) true ty).run Tryd.prog wr = .ok (.tuple #[.bool true, .int .i64 1, .int .i32 10]) (wr.iterAt w1.heap.size ⟨#[97, 10, 34]⟩ 2) := fun ty => Lib.run_next_ascii_at wr w1.heap.size ⟨#[97, 10, 34]⟩ 1 ty hit (by decide) (by decide)
      have C := Lib.hid (writeQuoted_n w0.heap.size w0.heap.size _ _ (hI.iterAt hit 2) (by simp [exPre, Lib.byteCells]) (by rw [Lib.iterAt_size]; omega))
      have hit2 := Lib.iterAt_heap wr w1.heap.size _ 1 2 hit
      have hbw2 := Lib.below_iterAt hbw (k := w1.heap.size) (by omega) ⟨#[97, 10, 34]⟩ 2
      clear hI hbw
      go_wp2_with (go_at_call 15; refine C.out.mono ?_; rintro e w2 ⟨rfl, h2, b2, k2⟩)
      go_roundw
      case rel => exact ⟨2, by omega, by simpa [exPre, Lib.byteCells] using h2, k2.iter hit2 (by omega), hbw2.trans b2⟩
      case measure =>
        simp only [World.iterPos, k2.iter hit2 (by omega), hit]
        omega
    · have hnx : ∀ ty, (Instr.next (.pointer (some ⟨w1.heap.size, 0, none⟩)) true ty).run Tryd.prog wr = .ok (.tuple #[.bool true, .int .i64 2, .int .i32 34]) (wr.iterAt w1.heap.size ⟨#[97, 10, 34]⟩ 3) := fun ty => Lib.run_next_ascii_at wr w1.heap.size ⟨#[97, 10, 34]⟩ 2 ty hit (by decide) (by decide)
      have C := Lib.hid (writeQuoted_q w0.heap.size w0.heap.size _ _ (hI.iterAt hit 3) (by simp [exPre, Lib.byteCells]) (by rw [Lib.iterAt_size]; omega))
      have hit2 := Lib.iterAt_heap wr w1.heap.size _ 2 3 hit
      have hbw2 := Lib.below_iterAt hbw (k := w1.heap.size) (by omega) ⟨#[97, 10, 34]⟩ 3
      clear hI hbw
      go_wp2_with (go_at_call 15; refine C.out.mono ?_; rintro e w2 ⟨rfl, h2, b2, k2⟩)
      go_roundw
      case rel => exact ⟨3, by omega, by simpa [exPre, Lib.byteCells] using h2, k2.iter hit2 (by omega), hbw2.trans b2⟩
      case measure =>
        simp only [World.iterPos, k2.iter hit2 (by omega), hit]
        omega
    · have hnx : ∀ ty, (Instr.next (.pointer (some ⟨w1.heap.size, 0, none⟩)) true ty).run Tryd.prog wr = _ := fun ty => Lib.run_next_end_at wr w1.heap.size ⟨#[97, 10, 34]⟩ 3 ty hit (by decide)
      have C := Lib.hid (writeByte_k w0.heap.size w0.heap.size _ 34 _ hI (by simp [exPre, Lib.byteCells]) (by omega))
      clear hI
      go_wp2_with (go_at_call 14; refine C.out.mono ?_)
      rintro e w2 ⟨rfl, h2, b2, _⟩
      have C2 := Lib.hid (Tryd.Builder_String_any_k w0.heap.size w0.heap.size (exPre 3 ++ [34]) w2 (by rw [Lib.byteCells_append]; exact Or.inr h2) (by have := b2.size; omega))
      clear h2
      go_wp2_with (go_at_call 16; refine C2.out.mono ?_; rintro e w3 ⟨rfl, _, b3, _⟩)
      go_ret2
      exact ⟨rfl, BB.out.1.trans (((hbw.trans b2).trans b3).mono BB.out.1.size)⟩

set_option maxHeartbeats 400000 in
theorem lives_any (w : World) :
    Calls Tryd.prog 4 #[] w fun e w' => e = .returned (.bool true) ∧ Below w.heap.size w w' := by
  have C := Lib.hid (quote_ex w)
  go_enter Tryd.func4, Tryd.ntmps4
  go_wp2_with (go_at_call 7; refine C.out.mono ?_; rintro e w1 ⟨rfl, b1⟩)
  go_ret
  exact ⟨rfl, b1⟩
end Go.Proofs.YtobdogkdlopifaaRRDoorRR
