/-
  What is proved: what slices.Sort's functions that choose a pivot return on bytes in memory; they write nothing but the count of swaps.
-/
import Derived.Test.YtchobpfdmkgnoaaDfHeap
namespace Go.Proofs.Ytchobpfdmkgnoaa
open Go.RowKit Go.Shelf Go.Sort

/-- A count at cell 0 of a block. -/
def CntAt (W : World) (sb : Nat) (s : Nat) : Prop := W.cell? ⟨sb, 0, none⟩ = some (.int .i64 (s : Int)) ∧ W.frozen? ⟨sb, 0, none⟩ = false
theorem holds_only {blk off sb : Nat} {d : Array UInt8} {w w' : World} (h : Holds encB w blk off d) (hlt : blk < w.heap.size) (hne : blk ≠ sb) (ho : OnlyAt sb w.heap.size w w') : Holds encB w' blk off d := by
  intro k hk
  obtain ⟨h1, h2⟩ := h k hk
  have e : w'.heap[blk]? = w.heap[blk]? := ho.block blk hlt hne
  exact ⟨by rw [World.cell?_of_block (w := w) e]; exact h1, by rw [World.frozen?_of_block (w := w) e]; exact h2⟩
theorem cnt_set {W : World} {sb s : Nat} (h : CntAt W sb s) (q : Nat) (t : Nat) : CntAt ((W.drewN q).setCell ⟨sb, 0, none⟩ (.int .i64 (t : Int))) sb t := by
  refine ⟨World.cell?_setCell_same _ _ _ (show (W.drewN q).cell? _ = _ from h.1), ?_⟩
  rw [World.frozen?_setCell]
  exact h.2

set_option maxRecDepth 100000 in
set_option maxHeartbeats 2000000 in
/-- slices.order2Ordered. -/
theorem order2_any (blk off cap a b sb s : Nat) (d : Array UInt8) (w : World) (hH : Holds encB w blk off d) (ha : a < d.size) (hb : b < d.size) (hc : CntAt w sb s) (hs : s ≤ 1000) (_ : d.size ≤ 1000000) :
    Calls Try.prog 91 #[.slice (some ⟨blk, off, none⟩) d.size cap, .int .i64 (a : Int), .int .i64 (b : Int), .pointer (some ⟨sb, 0, none⟩)] w fun e w' => e = .returned (.tuple #[.int .i64 ((order2 ltB d a b s).1 : Int), .int .i64 ((order2 ltB d a b s).2.1 : Int)]) ∧ CntAt w' sb (order2 ltB d a b s).2.2 ∧ OnlyAt sb w.heap.size w w' := by
  obtain ⟨n, hn⟩ : ∃ n, d.size = n := ⟨_, rfl⟩
  have ca := (hH a ha).1
  have cb := (hH b hb).1
  rw [hn] at ha hb
  rw [hn]
  obtain ⟨xa, hxa⟩ : ∃ x, d[a]! = x := ⟨_, rfl⟩
  obtain ⟨xb, hxb⟩ : ∃ x, d[b]! = x := ⟨_, rfl⟩
  rw [hxa] at ca
  rw [hxb] at cb
  unfold encB at ca cb
  have C := less_any xb xa
  have HC := Lib.hid hc
  obtain ⟨k0, k1⟩ := hc
  have a0 : (0 : Int) ≤ (a : Int) := by omega
  have a1 : (a : Int) < (n : Int) := by omega
  have b0 : (0 : Int) ≤ (b : Int) := by omega
  have b1 : (b : Int) < (n : Int) := by omega
  cases hlt : ltB xb xa with
  | true =>
    have e : order2 ltB d a b s = (b, a, s + 1) := by unfold order2; rw [hxa, hxb, hlt]; rfl
    rw [e]
    rw [hlt] at C
    replace C := Lib.hid C
    clear hlt e hxa hxb hn hH
    go_enter Try.func91, Try.ntmps91
    go_wp2_with fail
    go_quiet (first | (go_at_call 78; refine Calls.quiet_of_same (C.out _)))
    go_wp2
    refine bodyPost_ret (v := .tuple #[.int .i64 (b : Int), .int .i64 (a : Int)]) (by simp [results, Try.results91, go_sem]) rfl ?_
    refine ⟨rfl, ?_, ?_⟩
    · have := cnt_set HC.out (nq + 1) (s + 1)
      first | exact this | (push_cast at this; exact this)
    · first | exact (only_drewN (OnlyAt.refl _ _ _) _).set 0 _ | exact (OnlyAt.refl _ _ _).set 0 _
  | false =>
    have e : order2 ltB d a b s = (a, b, s) := by unfold order2; rw [hxa, hxb, hlt]; rfl
    rw [e]
    rw [hlt] at C
    replace C := Lib.hid C
    clear hlt e hxa hxb hn hH
    go_enter Try.func91, Try.ntmps91
    go_wp2_with fail
    go_quiet (first | (go_at_call 78; refine Calls.quiet_of_same (C.out _)))
    go_wp2
    refine bodyPost_ret (v := .tuple #[.int .i64 (a : Int), .int .i64 (b : Int)]) (by simp [results, Try.results91, go_sem]) rfl ?_
    exact ⟨rfl, HC.out, only_drewN (OnlyAt.refl _ _ _) _⟩

theorem order2_or (d : Array UInt8) (a b s : Nat) : ((order2 ltB d a b s).1 = a ∧ (order2 ltB d a b s).2.1 = b ∨ (order2 ltB d a b s).1 = b ∧ (order2 ltB d a b s).2.1 = a) ∧ s ≤ (order2 ltB d a b s).2.2 ∧ (order2 ltB d a b s).2.2 ≤ s + 1 := by
  unfold order2
  split
  · exact ⟨.inr ⟨rfl, rfl⟩, Nat.le_succ _, Nat.le_refl _⟩
  · exact ⟨.inl ⟨rfl, rfl⟩, Nat.le_refl _, Nat.le_succ _⟩

/-- What holds of the row and the count between two calls. -/
structure MedAt (blk off sb : Nat) (d : Array UInt8) (s : Nat) (w0 W : World) : Prop where
  row : Holds encB W blk off d
  cnt : CntAt W sb s
  only : OnlyAt sb w0.heap.size w0 W
theorem order2_from {blk off sb s : Nat} {d : Array UInt8} {w0 W : World} (h : MedAt blk off sb d s w0 W) (hlt : blk < w0.heap.size) (hne : blk ≠ sb) (cap : Nat) {a b : Nat} (ha : a < d.size) (hb : b < d.size) (hs : s ≤ 1000) (hsz : d.size ≤ 1000000) :
    Calls Try.prog 91 #[.slice (some ⟨blk, off, none⟩) d.size cap, .int .i64 (a : Int), .int .i64 (b : Int), .pointer (some ⟨sb, 0, none⟩)] W fun e w' => ∃ (x y s' : Nat), e = .returned (.tuple #[.int .i64 (x : Int), .int .i64 (y : Int)]) ∧ order2 ltB d a b s = (x, y, s') ∧ x < d.size ∧ y < d.size ∧ s' ≤ s + 1 ∧ MedAt blk off sb d s' w0 w' := by
  have hz := h.only.size
  refine (order2_any blk off cap a b sb s d W h.row ha hb h.cnt hs hsz).mono ?_
  rintro e w' ⟨rfl, h1, h2⟩
  obtain ⟨h3, _, h4⟩ := order2_or d a b s
  refine ⟨_, _, _, rfl, rfl, ?_, ?_, h4, holds_only h.row (by omega) hne h2, h1, h.only.trans (h2.mono h.only.size)⟩
  · rcases h3 with ⟨e1, _⟩ | ⟨e1, _⟩ <;> rw [e1] <;> assumption
  · rcases h3 with ⟨_, e1⟩ | ⟨_, e1⟩ <;> rw [e1] <;> assumption

set_option maxRecDepth 100000 in
set_option maxHeartbeats 2000000 in
/-- slices.medianOrdered. -/
theorem median_any (blk off cap a b c sb s : Nat) (d : Array UInt8) (w0 w : World) (h : MedAt blk off sb d s w0 w) (hlt : blk < w0.heap.size) (hne : blk ≠ sb) (ha : a < d.size) (hb : b < d.size) (hc : c < d.size) (hs : s ≤ 900) (hsz : d.size ≤ 1000000) :
    Calls Try.prog 89 #[.slice (some ⟨blk, off, none⟩) d.size cap, .int .i64 (a : Int), .int .i64 (b : Int), .int .i64 (c : Int), .pointer (some ⟨sb, 0, none⟩)] w fun e w' => ∃ (m s' : Nat), e = .returned (.int .i64 (m : Int)) ∧ median ltB d a b c s = (m, s') ∧ m < d.size ∧ s' ≤ s + 3 ∧ MedAt blk off sb d s' w0 w' := by
  have C := Lib.hid fun (W : World) (a b s : Nat) (h : MedAt blk off sb d s w0 W) (ha : a < d.size) (hb : b < d.size) (hs : s ≤ 1000) => order2_from h hlt hne cap ha hb hs hsz
  obtain ⟨n, hn⟩ : ∃ n, d.size = n := ⟨_, rfl⟩
  rw [hn] at C ha hb hc
  rw [hn]
  obtain ⟨T, hT⟩ : ∃ T, median ltB d a b c s = T := ⟨_, rfl⟩
  rw [hT]
  have HT := Lib.hid hT
  clear hT hn
  go_enter Try.func89, Try.ntmps89
  go_wp2_with fail
  refine (C.out _ _ _ _ h ha hb (by omega)).mono ?_
  rintro e w1 ⟨x1, y1, s1, rfl, e1, hx1, hy1, hs1, h1⟩
  go_wp2_with fail
  refine (C.out _ _ _ _ h1 hy1 hc (by omega)).mono ?_
  rintro e w2 ⟨x2, y2, s2, rfl, e2, hx2, hy2, hs2, h2⟩
  go_wp2_with fail
  refine (C.out _ _ _ _ h2 hx1 hx2 (by omega)).mono ?_
  rintro e w3 ⟨x3, y3, s3, rfl, e3, hx3, hy3, hs3, h3⟩
  have HE : Hid (T = (y3, s3)) := Lib.hid (by
    rw [← HT.out]
    unfold median
    rw [e1]
    dsimp only
    rw [e2]
    dsimp only
    rw [e3])
  clear C e1 e2 e3 h1 h2 h
  go_wp2
  go_ret
  exact ⟨y3, s3, rfl, HE.out, hy3, by omega, h3⟩
set_option maxRecDepth 100000 in
set_option maxHeartbeats 2000000 in
/-- slices.medianAdjacentOrdered. -/
theorem adjacent_any (blk off cap a sb s : Nat) (d : Array UInt8) (w0 w : World) (h : MedAt blk off sb d s w0 w) (hlt : blk < w0.heap.size) (hne : blk ≠ sb) (ha : 1 ≤ a) (ha2 : a + 1 < d.size) (hs : s ≤ 900) (hsz : d.size ≤ 1000000) :
    Calls Try.prog 88 #[.slice (some ⟨blk, off, none⟩) d.size cap, .int .i64 (a : Int), .pointer (some ⟨sb, 0, none⟩)] w fun e w' => ∃ (m s' : Nat), e = .returned (.int .i64 (m : Int)) ∧ medianAdjacent ltB d a s = (m, s') ∧ m < d.size ∧ s' ≤ s + 3 ∧ MedAt blk off sb d s' w0 w' := by
  have C := Lib.hid (median_any blk off cap (a - 1) a (a + 1) sb s d w0 w h hlt hne (by omega) (by omega) (by omega) hs hsz)
  obtain ⟨p, hp⟩ : ∃ p, a - 1 = p := ⟨_, rfl⟩
  obtain ⟨q, hq⟩ : ∃ q, a + 1 = q := ⟨_, rfl⟩
  have e1 : (a : Int) - 1 = (p : Int) := by omega
  have e2 : (a : Int) + 1 = (q : Int) := by omega
  have e3 : IntKind.i64.wrap (p : Int) = (p : Int) := by rw [IntKind.wrap_i64]; omega
  have e4 : IntKind.i64.wrap (q : Int) = (q : Int) := by rw [IntKind.wrap_i64]; omega
  unfold medianAdjacent
  rw [hp, hq] at C
  rw [hp, hq]
  obtain ⟨n, hn⟩ : ∃ n, d.size = n := ⟨_, rfl⟩
  rw [hn] at C
  rw [hn]
  obtain ⟨T, hT⟩ : ∃ T, median ltB d p a q s = T := ⟨_, rfl⟩
  rw [hT] at C
  rw [hT]
  clear hT hp hq h hn
  go_enter Try.func88, Try.ntmps88
  go_wp2_with fail
  refine C.out.mono ?_
  rintro e w1 ⟨m, s1, rfl, e1, hm, hs1, h1⟩
  clear C
  go_wp2
  go_ret
  exact ⟨m, s1, rfl, e1, hm, hs1, h1⟩
end Go.Proofs.Ytchobpfdmkgnoaa
