/-
  What is proved: what nfa.New, Start, Step, Accepts and Run return, as sets of states (NfMath) and lists of numbers; at nil too. What lay in memory before stands as it stood.
-/
import Derived.Test.YtchobpfdmkgnoaaNfWalk
import Derived.Laws.IdiomStrings
namespace Go.Proofs.Ytchobpfdmkgnoaa
open Go.RowKit Go.Shelf

/-! Lists of numbers in memory -/
def Ints (W : World) (v : Value) (zs : List Int) : Prop :=
  (v = .slice none 0 0 ∧ zs = []) ∨ (∃ a cap, v = .slice (some a) 0 cap ∧ zs = []) ∨ ∃ b off cap, v = .slice (some ⟨b, off, none⟩) zs.length cap ∧ b < W.heap.size ∧ ∀ j, j < zs.length → W.cell? ⟨b, off + j, none⟩ = some (.int .i64 (zs.getD j 0))
theorem Ints.below {W W' : World} {v : Value} {zs : List Int} (h : Ints W v zs) (hb : Below W.heap.size W W') : Ints W' v zs := by
  rcases h with h | h | ⟨b, off, cap, e, hlt, hc⟩
  · exact .inl h
  · exact .inr (.inl h)
  · exact .inr (.inr ⟨b, off, cap, e, by have := hb.size; omega, fun j hj => (hb.cell (p := ⟨b, off + j, none⟩) hlt).trans (hc j hj)⟩)
/-- A list's cells, wherever what lay in memory stands. -/
theorem Ints.reads {w : World} {v : Value} {zs : List Int} (hv : Ints w v zs) : ∃ a cap, v = .slice a zs.length cap ∧ Hid (∀ W, Below w.heap.size w W → ∀ k, k < zs.length → ∃ b' off, a = some ⟨b', off, none⟩ ∧ W.cell? ⟨b', off + k, none⟩ = some (.int .i64 (zs.getD k 0))) := by
  rcases hv with ⟨rfl, rfl⟩ | ⟨a, cap, rfl, rfl⟩ | ⟨b', off, cap, rfl, hlt, hc⟩
  · exact ⟨none, 0, rfl, Lib.hid (fun _ _ k hk => absurd hk (Nat.not_lt_zero k))⟩
  · exact ⟨some a, cap, rfl, Lib.hid (fun _ _ k hk => absurd hk (Nat.not_lt_zero k))⟩
  · exact ⟨_, cap, rfl, Lib.hid (fun W hW k hk => ⟨b', off, rfl, (hW.cell (p := ⟨b', off + k, none⟩) hlt).trans (hc k hk)⟩)⟩
theorem Ints.of_own {W : World} {B k : Nat} {v : Value} {zs : List Int} (h : W.ownsRow B 3 1 v k (zs.map (Value.int .i64))) : Ints W v zs := by
  obtain ⟨hl, h⟩ := h
  have hk : k = zs.length := by simpa using hl.symm
  subst hk
  rcases h with ⟨rfl, h0⟩ | ⟨g, cap, cur, rfl, _, hg, _, _, _, ht⟩
  · exact .inl ⟨rfl, by simpa using h0⟩
  · refine .inr (.inr ⟨g, 0, cap, rfl, (Array.getElem?_eq_some_iff.1 hg).1, fun j hj => by
    have : cur[j]? = some (.int .i64 (zs.getD j 0)) := by
      have e : (cur.toList.take (zs.length * 1))[j]? = (zs.map (Value.int .i64))[j]? := by rw [ht]
      rw [List.getElem?_take_of_lt (by omega), List.getElem?_map, List.getElem?_eq_getElem hj] at e
      rw [Array.getElem?_toList] at e
      rw [e]
      simp [List.getD, hj]
    simp only [Nat.zero_add, World.cell?, hg]
    exact this⟩)
theorem own_base {W : World} {B B' k : Nat} {t : TypeId} {v : Value} {xs : List Value} (h : W.ownsRow B t 1 v k xs) (hB : B' ≤ B) : W.ownsRow B' t 1 v k xs := by
  obtain ⟨hl, h⟩ := h
  refine ⟨hl, ?_⟩
  rcases h with h | ⟨g, cap, cur, e, hb, r⟩
  · exact .inl h
  · exact .inr ⟨g, cap, cur, e, by omega, r⟩

theorem obj_set {W : World} {b i : Nat} {c : Array Value} {t : TypeId} {fr : Nat × Nat} (v : Value) (h : W.heap[b]? = some (.cells c t fr)) : (W.setCell ⟨b, i, none⟩ v).heap[b]? = some (.cells (c.setIfInBounds i v) t fr) := by
  rw [setCell_eq_setRow W b i c t fr v h]; exact setRow_heap W b c _ t fr h

/-! New -/
theorem check_pos {s : ByteArray} (h : checkN s.size = 0) : 0 < s.size ∧ s.size ≤ 255 := by
  unfold checkN at h
  split at h
  · cases h
  · split at h
    · cases h
    · omega

theorem new_not (p : ByteArray) (f : Bool) (w : World) (h : checkN p.size ≠ 0) :
    Calls Try.prog 11 #[.string p, .bool f] w fun e w' => e = .returned (.tuple #[.pointer none, .int .i64 (checkN p.size)]) ∧ w' = w := by
  have C := Lib.hid (check_any p w)
  obtain ⟨k, hk⟩ : ∃ k, checkN p.size = k := ⟨_, rfl⟩
  rw [hk] at C h
  rw [hk]
  clear hk
  go_enter Try.func11, Try.ntmps11
  go_wp2_with (go_at_call 20; refine C.out.mono ?_; rintro e w' ⟨rfl, rfl⟩)
  go_ret2
  exact ⟨rfl, rfl⟩

/-- What New makes of p. -/
def normP (p : ByteArray) : List UInt8 := normL false p.data.toList
theorem normP_len (p : ByteArray) : (normP p).length ≤ p.size := by
  have := norm_len p.data.toList false
  rw [Lib.size_eq]
  simpa [normP] using this
theorem normP_no (p : ByteArray) : noSt (normP p) := noSt_norm _ _

set_option maxHeartbeats 2000000 in
theorem new_any (p : ByteArray) (f : Bool) (w : World) (h : checkN p.size = 0) :
    Calls Try.prog 11 #[.string p, .bool f] w fun e w' => ∃ b, e = .returned (.tuple #[.pointer (some ⟨b, 0, none⟩), .int .i64 0]) ∧ w.heap.size ≤ b ∧ NfaAt w' b (normP p) f ∧ Below w.heap.size w w' := by
  have hsz := (check_pos h).2
  have hnl := normP_len p
  have C := Lib.hid (check_any p w)
  rw [h] at C
  have C2 := Lib.hid (norm_any p w (by omega))
  have e2 : normL false p.data.toList = normP p := rfl
  rw [e2] at C2
  obtain ⟨P, hP⟩ : ∃ P, normP p = P := ⟨_, rfl⟩
  rw [hP] at C2 hnl
  rw [hP]
  clear hP e2 h
  have C3 : Hid (∀ (W : World) (b : Nat), W.cell? ⟨b, 2, none⟩ = some (.bool f) → Calls Try.prog 22 #[.pointer (some ⟨b, 0, none⟩), .string (str P)] W fun e w' => e = .returned (.string (str (cntL f P))) ∧ Below W.heap.size W w') :=
    Lib.hid (fun W b hc => by have := counted_any hc (str P) (by rw [str_size]; omega); rwa [str_data] at this)
  go_enter Try.func11, Try.ntmps11
  go_wp2_with (go_at_call 20; refine C.out.mono ?_; rintro e w' ⟨rfl, rfl⟩)
  refine C2.out.mono ?_
  rintro e w1 ⟨rfl, hb1⟩
  go_wp2_with fail
  have hblk : (w1.alloc (.cells #[.pointer none, .string (str P), .bool f, .string ⟨#[]⟩] 57)).heap[w1.heap.size]? = some (.cells #[.pointer none, .string (str P), .bool f, .string ⟨#[]⟩] 57 (0, 0)) := World.alloc_heap_new w1 _
  have hba : Below w'.heap.size w' (w1.alloc (.cells #[.pointer none, .string (str P), .bool f, .string ⟨#[]⟩] 57)) := hb1.alloc hb1.size _
  have hsa : (w1.alloc (.cells #[.pointer none, .string (str P), .bool f, .string ⟨#[]⟩] 57)).heap.size = w1.heap.size + 1 := by simp
  refine (C3.out _ _ (by unfold World.cell?; rw [hblk]; rfl)).mono ?_
  rintro e w2 ⟨rfl, hb2⟩
  have hblk2 := (hb2.block w1.heap.size (by omega)).trans hblk
  have hb3 := hba.trans (hb2.mono (by have := hb1.size; omega))
  have hsz1 := hb1.size
  clear hblk hba hsa hb2 C C2 C3 hb1
  obtain ⟨b, hb⟩ : ∃ b, w1.heap.size = b := ⟨_, rfl⟩
  rw [hb] at hblk2 hsz1
  rw [hb]
  clear hb
  have c3 : w2.cell? ⟨b, 3, none⟩ = some (.string ⟨#[]⟩) := by simp [World.cell?, hblk2]
  have f3 : w2.frozen? ⟨b, 3, none⟩ = false := by simp [World.frozen?, hblk2]
  have c0 : w2.cell? ⟨b, 0, none⟩ = some (.pointer none) := by simp [World.cell?, hblk2]
  have f0 : w2.frozen? ⟨b, 0, none⟩ = false := by simp [World.frozen?, hblk2]
  have hfin : NfaAt ((w2.setCell ⟨b, 3, none⟩ (.string (str (cntL f P)))).setCell ⟨b, 0, none⟩ (.pointer (some ⟨b, 0, none⟩))) b P f := by
    have := obj_set (i := 0) (.pointer (some ⟨b, 0, none⟩)) (obj_set (i := 3) (.string (str (cntL f P))) hblk2)
    simpa [NfaAt] using this
  have hfb := (hb3.setCell (p := ⟨b, 3, none⟩) hsz1 (.string (str (cntL f P)))).setCell (p := ⟨b, 0, none⟩) hsz1 (.pointer (some ⟨b, 0, none⟩))
  replace hfin := Lib.hid hfin
  replace hfb := Lib.hid hfb
  clear hblk2
  go_wp2
  go_ret2
  exact ⟨b, rfl, hsz1, hfin.out, hfb.out⟩

/-! Start -/
set_option maxHeartbeats 1000000 in
theorem start_own {w : World} {b : Nat} {P : List UInt8} {f : Bool} (ho : NfaAt w b P f) (hP : P.length ≤ 900000) (hns : noSt P) :
    Calls Try.prog 25 #[.pointer (some ⟨b, 0, none⟩)] w fun e w' => ∃ v, e = .returned v ∧ w'.ownsRow w.heap.size 3 1 v (intsF (P.length + 1) (startF (cntL f P))).length ((intsF (P.length + 1) (startF (cntL f P))).map (Value.int .i64)) ∧ Below w.heap.size w w' := by
  obtain ⟨B, hB⟩ : ∃ B, cntL f P = B := ⟨_, rfl⟩
  have C := Lib.hid (isMade_any ho)
  have C1 := Lib.hid (initial_any ho hP hns)
  have C2 := Lib.hid (fun (s : Nat) w => states_any (some ⟨s, 0, none⟩) (P.length + 1) (P.length + 1) w)
  rw [hB] at C1
  rw [hB]
  unfold setV at C1
  have hNl : P.length + 1 ≤ 1000000 := by omega
  go_enter Try.func25, Try.ntmps25
  go_wp2_with (go_at_call 37; refine C.out.mono ?_; rintro e w' ⟨rfl, rfl⟩)
  refine C1.out.mono ?_
  rintro e w1 ⟨rfl, hs1, hb1⟩
  have C3 := Lib.hid (collect_any w1.heap.size w'.heap.size (P.length + 1) _ hNl (w1.alloc (.cells #[.slice (some ⟨w'.heap.size, 0, none⟩) (P.length + 1) (P.length + 1)] 83)) (by simp) (Boxed.new w1 83 _).cell (World.rowIs.alloc hs1 _))
  go_wp2_with (go_at_call 40; refine (C2.out _ _).mono ?_; rintro e w2 ⟨rfl, rfl⟩)
  refine C3.out.mono ?_
  rintro e w3 ⟨v, rfl, hr, hb3⟩
  have hb4 := hb1.alloc hb1.size (.cells #[.slice (some ⟨w'.heap.size, 0, none⟩) (P.length + 1) (P.length + 1)] 83)
  have hb5 := hb4.trans (hb3.mono hb4.size)
  go_wp2
  go_ret
  exact ⟨v, rfl, own_base hr (by have := hb1.size; simp; omega), hb5⟩
theorem start_any {w : World} {b : Nat} {P : List UInt8} {f : Bool} (ho : NfaAt w b P f) (hP : P.length ≤ 900000) (hns : noSt P) :
    Calls Try.prog 25 #[.pointer (some ⟨b, 0, none⟩)] w fun e w' => ∃ v, e = .returned v ∧ Ints w' v (intsF (P.length + 1) (startF (cntL f P))) ∧ Below w.heap.size w w' :=
  (start_own ho hP hns).mono (fun _ _ ⟨v, h1, h2, h3⟩ => ⟨v, h1, Ints.of_own h2, h3⟩)

theorem start_nil (w : World) :
    Calls Try.prog 25 #[.pointer none] w fun e w' => e = .returned (.slice none 0 0) ∧ w' = w := by
  have C := Lib.hid (isMade_nil w)
  go_enter Try.func25, Try.ntmps25
  go_wp2_with (go_at_call 37; refine C.out.mono ?_; rintro e w' ⟨rfl, rfl⟩)
  go_ret
  exact ⟨rfl, rfl⟩

theorem step_nil (v : Value) (c : Value) (w : World) :
    Calls Try.prog 42 #[.pointer none, v, c] w fun e w' => e = .returned (.slice none 0 0) ∧ w' = w := by
  have C := Lib.hid (isMade_nil w)
  go_enter Try.func42, Try.ntmps42
  go_wp2_with (go_at_call 37; refine C.out.mono ?_; rintro e w' ⟨rfl, rfl⟩)
  go_ret
  exact ⟨rfl, rfl⟩

theorem accepts_nil (v : Value) (w : World) :
    Calls Try.prog 27 #[.pointer none, v] w fun e w' => e = .returned (.bool false) ∧ w' = w := by
  have C := Lib.hid (isMade_nil w)
  go_enter Try.func27, Try.ntmps27
  go_wp2_with (go_at_call 37; refine C.out.mono ?_; rintro e w' ⟨rfl, rfl⟩)
  go_ret
  exact ⟨rfl, rfl⟩


/-! Run -/

/-! Accepts -/
set_option maxHeartbeats 1000000 in
theorem accepts_any {w : World} {b : Nat} {P : List UInt8} {f : Bool} (ho : NfaAt w b P f) {v : Value} {zs : List Int} (hv : Ints w v zs) (hz : zs.length ≤ 1000000) :
    Calls Try.prog 27 #[.pointer (some ⟨b, 0, none⟩), v] w fun e w' => e = .returned (.bool (inL zs P.length)) ∧ w' = w := by
  have C := Lib.hid (isMade_any ho)
  have C4 := Lib.hid (end_any ho)
  have C5 : Hid (Calls Try.prog 43 #[v, .int .i64 (P.length : Int)] w fun e w' => e = .returned (.bool (inL zs P.length)) ∧ w' = w) := by
    rcases hv with ⟨rfl, rfl⟩ | ⟨a, cap, rfl, rfl⟩ | ⟨b', off, cap, rfl, _, hc⟩
    · exact Lib.hid (Try.slices_Contains_int_empty none 0 _ w)
    · exact Lib.hid (Try.slices_Contains_int_empty (some a) cap _ w)
    · have := Try.slices_Contains_int b' off zs.length cap zs (P.length : Int) w (Nat.le_refl _) (by omega) hc
      rw [List.take_length] at this
      exact Lib.hid this
  obtain ⟨x, hx⟩ : ∃ x, inL zs P.length = x := ⟨_, rfl⟩
  rw [hx] at C5
  rw [hx]
  clear hx
  go_enter Try.func27, Try.ntmps27
  go_wp2_with (go_at_call 37; refine C.out.mono ?_; rintro e w' ⟨rfl, rfl⟩)
  refine C4.out.mono ?_
  rintro e w2 ⟨rfl, rfl⟩
  go_wp2_with fail
  refine C5.out.mono ?_
  rintro e w2 ⟨rfl, rfl⟩
  go_wp2
  go_ret
  exact ⟨rfl, rfl⟩
end Go.Proofs.Ytchobpfdmkgnoaa
