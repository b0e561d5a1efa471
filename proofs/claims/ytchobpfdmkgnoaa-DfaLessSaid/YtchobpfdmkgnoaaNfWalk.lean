/-
  What is proved: what nfa's walk and initial return: sets in memory of their own, after all bytes of a string, and at the start. What lay in memory before stands as it stood.
-/
import Derived.Test.YtchobpfdmkgnoaaNfStep
namespace Go.Proofs.Ytchobpfdmkgnoaa
open Go.RowKit Go.Shelf

theorem info_bool : (Try.prog.info? 4).map (fun i => (i.zero, i.size, i.bytes)) = some (some (.bool false), 1, 1) := by kernel_rfl
theorem make_set (n : Nat) (hn : n ≤ 1000000) (w : World) :
    (Instr.makeSlice 83 (.int .i64 (n : Int)) (.int .i64 (n : Int))).run Try.prog w = .ok (.slice (some ⟨w.heap.size, 0, none⟩) n n) (w.alloc (.cells (madeCells #[.bool false] n) 4)) :=
  run_make_row' (P := Try.prog) 83 4 (.bool false) 1 Try.underlying83 info_bool rfl .i64 .i64 n (by omega) (by omega) w
theorem set_made (w : World) (n : Nat) : SetAt (w.alloc (.cells (madeCells #[.bool false] n) 4)) w.heap.size n (fun _ => false) := World.rowIs_made w (.bool false) n 4

set_option maxHeartbeats 1000000 in
theorem initial_any {w : World} {b : Nat} {P : List UInt8} {f : Bool} (ho : NfaAt w b P f) (hP : P.length ≤ 900000) (hns : noSt P) :
    Calls Try.prog 39 #[.pointer (some ⟨b, 0, none⟩)] w fun e w' => e = .returned (setV w.heap.size (P.length + 1)) ∧ SetAt w' w.heap.size (P.length + 1) (startF (cntL f P)) ∧ Below w.heap.size w w' := by
  have hmk := make_set (P.length + 1) (by omega)
  rw [show ((P.length + 1 : Nat) : Int) = (P.length : Int) + 1 from rfl] at hmk
  have C1 := Lib.hid (sizes_any ho (by omega))
  have hs0 := set_made w (P.length + 1)
  have hcc := World.rowIs.cell hs0 (i := 0) (by omega)
  have hff := World.rowIs.frozen hs0 0
  have hs1 := (hs0.add 0).congr (h := fun i => decide (i = 0)) (fun i _ => by by_cases e : i = 0 <;> simp [e])
  have hB1 : Below w.heap.size w ((w.alloc (.cells (madeCells #[.bool false] (P.length + 1)) 4)).setCell ⟨w.heap.size, 0, none⟩ (.bool true)) := ((Below.refl _ w).alloc (Nat.le_refl _) _).setCell (p := ⟨w.heap.size, 0, none⟩) (Nat.le_refl _) _
  have C2 := Lib.hid (callsIn_wide.1 (takeClosure_in 5 (by omega) b w.heap.size P f (fun i => decide (i = 0)) _ hP hns (ho.below hB1 ho.lt) hs1))
  unfold setV at C2
  unfold setV
  replace hB1 := Lib.hid hB1
  clear hs0 hs1
  go_enter Try.func39, Try.ntmps39
  go_wp2_with (go_at_call 55; refine C1.out.mono ?_; rintro e w' ⟨rfl, rfl⟩)
  rw [← World.setCell_alloc_new]
  refine C2.out.mono ?_
  rintro e w2 ⟨⟨v, rfl⟩, hs3, ho3⟩
  go_wp2
  go_ret
  exact ⟨rfl, hs3, hB1.out.trans (ho3.below (Nat.le_refl _) (by have := hB1.out.size; exact this))⟩

/-- Between two rounds: the set after the first k bytes, and a second one. -/
structure WInv (w wr : World) (b s n : Nat) (P : List UInt8) (f : Bool) (A N : Nat) (r : Nat → Bool) : Prop where
  setA : SetAt wr A n r
  setN : ∃ g, SetAt wr N n g
  ne : A ≠ N
  only : OnlyAt s w.heap.size w wr
  hA : A = s ∨ w.heap.size ≤ A
  hN : N = s ∨ w.heap.size ≤ N

theorem step_enters : ∀ args w, (callFunc 59 args).run Try.prog w = .ok (.enter 59 args) w := enters_of Try.func59 (by kernel_rfl) rfl

theorem winv_step {w wr w2 : World} {b s n : Nat} {P : List UInt8} {f : Bool} {A N : Nat} {r r' : Nat → Bool} (h : WInv w wr b s n P f A N r) (hs : SetAt w2 N n r') (ho : OnlyAt N wr.heap.size wr w2) : WInv w w2 b s n P f N A r' := by
  refine ⟨hs, ⟨r, h.setA.of_block (ho.block A h.setA.lt h.ne)⟩, Ne.symm h.ne, ?_, h.hN, h.hA⟩
  refine h.only.trans ?_
  have hsz := h.only.size
  rcases h.hN with e | e
  · subst e; exact ho.mono hsz
  · exact Below.onlyAt (ho.below e hsz)

set_option maxHeartbeats 2000000 in
theorem walk_any {w : World} {b s : Nat} {P : List UInt8} {f : Bool} {g : Nat → Bool} (t : ByteArray) (ht : t.size ≤ 1000000) (ho : NfaAt w b P f) (hP : P.length ≤ 900000) (hns : noSt P) (hs : SetAt w s (P.length + 1) g) :
    Calls Try.prog 58 #[setV s (P.length + 1), .string t, .func (.func 59) #[.pointer (some ⟨b, 0, none⟩)] #[]] w fun e w' =>
      ∃ r, e = .returned (setV r (P.length + 1)) ∧ SetAt w' r (P.length + 1) (runF (cntL f P) t.data.toList g) ∧ OnlyAt s w.heap.size w w' ∧ (r = s ∨ w.heap.size ≤ r) := by
  have hmk := make_set (P.length + 1) (by omega)
  rw [show ((P.length + 1 : Nat) : Int) = (P.length : Int) + 1 from rfl] at hmk
  obtain ⟨B, hB⟩ : ∃ B, cntL f P = B := ⟨_, rfl⟩
  rw [hB]
  have HB := Lib.hid hB
  clear hB
  have hbs := set_ne_obj ho hs
  have hbl := ho.lt
  have hsl := hs.lt
  have HT := Lib.hid (Lib.size_eq t)
  have hW0 : WInv w (w.alloc (.cells (madeCells #[.bool false] (P.length + 1)) 4)) b s (P.length + 1) P f s w.heap.size (runF B (t.data.toList.take 0) g) :=
    ⟨by rw [List.take_zero]; exact World.rowIs.alloc hs _, ⟨_, set_made w (P.length + 1)⟩, by omega, Below.onlyAt ((Below.refl _ w).alloc (Nat.le_refl _) _), .inl rfl, .inr (Nat.le_refl _)⟩
  replace hW0 := Lib.hid hW0
  have hen := step_enters
  have hmf : ∀ (fn : Fn) (first cap : Array Value) (w : World), (Instr.makeFunc fn first cap).run Try.prog w = .ok (.func fn first cap) w := fun _ _ _ _ => rfl
  unfold setV
  go_enter Try.func58, Try.ntmps58
  go_wp2
  go_loopg [0, 7, 14] t.size (fun gk s0 s7 s14 wr => ∃ k A N : Nat, k + gk = t.size ∧ s0 = .slice (some ⟨A, 0, none⟩) (P.length + 1) (P.length + 1) ∧ s7 = .slice (some ⟨N, 0, none⟩) (P.length + 1) (P.length + 1) ∧ s14 = .int .i64 k ∧ Hid (WInv w wr b s (P.length + 1) P f A N (runF B (t.data.toList.take k) g)))
  case atStart => exact ⟨0, s, w.heap.size, by omega, rfl, rfl, rfl, hW0⟩
  case round =>
    obtain ⟨k, A, N, hkg, rfl, rfl, rfl, HI⟩ := hrel
    clear hW0
    cases gk with
    | zero =>
      have hkz : ¬ ((k : Int) < (t.size : Int)) := by omega
      have hkt : Hid (t.data.toList.take k = t.data.toList) := Lib.hid (List.take_of_length_le (by rw [← HT.out]; omega))
      go_wp2
      go_ret
      refine ⟨A, rfl, ?_, HI.out.only, HI.out.hA⟩
      have := HI.out.setA
      rw [hkt.out] at this
      exact this
    | succ g' =>
      have hkz : (k : Int) < (t.size : Int) := by omega
      have hin : k < t.size := by omega
      obtain ⟨g2, hg2⟩ := HI.out.setN
      have hstep : Hid (t.data.toList.take (k + 1) = t.data.toList.take k ++ [t[k]'hin]) := Lib.hid (by
        rw [List.take_add_one, List.getElem?_eq_getElem (by rw [← HT.out]; exact hin)]; rfl)
      obtain ⟨c, hc⟩ : ∃ c : UInt8, t[k]'hin = c := ⟨_, rfl⟩
      rw [hc] at hstep
      have C := Lib.hid (callsIn_wide.1 (step_in 7 (by omega) b A N P f c _ g2 wr hP hns (ho.same (HI.out.only.block b hbl hbs)) HI.out.setA hg2 HI.out.ne))
      unfold setV at C
      clear hg2
      go_wp2_with (go_at_fn 59; refine C.out.mono ?_; rintro e w2 ⟨⟨v, rfl⟩, hs3, ho3⟩)
      go_roundg g'
      case measure => omega
      case rel => exact ⟨k + 1, N, A, by omega, rfl, rfl, iv (by omega), Lib.hid (winv_step HI.out (by rw [hstep.out, runF_snoc, ← HB.out]; exact (HB.out ▸ hs3)) ho3)⟩
end Go.Proofs.Ytchobpfdmkgnoaa
