/-
  What is proved: what the document's own automaton (package outlawref08) returns: same, Step, Accepts, Run. What lay in memory before stands as it stood.
-/
import Derived.Test.YtinhihdceijfaaaNfRef
import Derived.BigRegion
import Derived.BigQuiet
namespace Go.Proofs.Ytinhihdceijfaaa
open Go.RowKit Go.Shelf

theorem conv_at (c : UInt8) (W : World) (b : Nat) (h : W.cell? ⟨b, 0, none⟩ = some (.int .u8 (c.toNat : Int))) :
    (convert 59 9 (.slice (some ⟨b, 0, none⟩) 1 1)).run Try.prog W = .ok (.string (str [c])) W :=
  run_convert_bytes_back (P := Try.prog) _ 59 9 5 ⟨b, 0, none⟩ 1 [c] Try.underlying59 Try.underlying5 Try.underlying9 (fun j hj => by
    have : j = 0 := by simpa using hj
    subst this
    exact h)
theorem str_ne {a b : UInt8} (h : a ≠ b) : ((str [a]).toList == (str [b]).toList) = false := by
  rw [Lib.toList_data, Lib.toList_data, str_data, str_data]
  simpa using h

set_option maxHeartbeats 4000000 in
set_option maxRecDepth 100000 in
theorem same_ref {w : World} {o : Nat} {P : List UInt8} {f : Bool} (ho : RefAt w o P f) (a b : UInt8) :
    Calls Try.prog 40 #[.pointer (some ⟨o, 0, none⟩), .int .u8 (a.toNat : Int), .int .u8 (b.toNat : Int)] w fun e w' => e = .returned (.bool (cntC f a == cntC f b)) ∧ Below w.heap.size w w' := by
  have hA := conv_at a
  have hB := conv_at b
  have hbX : ∀ o1 o2 : Obj, Below w.heap.size w ((w.alloc o1).alloc o2).drew := fun o1 o2 => (((Below.refl _ w).alloc (Nat.le_refl _) _).alloc (by simp) _).drew
  have hol := ho.lt
  obtain ⟨R, HR⟩ : ∃ R, Hid ((cntC f a == cntC f b) = R) := ⟨_, Lib.hid rfl⟩
  rw [HR.out]
  replace hbX := Lib.hid hbX
  replace ho := Lib.hid ho
  go_enter Try.func40, Try.ntmps40
  go_wp2
  go_region
  all_goals
    generalize hW2 : World.drew _ = W2
    have hb2 : Below w.heap.size w W2 := by rw [← hW2]; exact hbX.out _ _
    clear hW2 hA hB hbX
    have c1 := (ho.out.below hb2 hol).c1
    by_cases hab : a = b
    · subst hab
      have HE : Hid (R = true) := Lib.hid (by rw [← HR.out]; simp)
      go_wp2
      go_ret
      exact ⟨ret_bool HE.out.symm, hb2⟩
    · have hne := str_ne hab
      cases f with
      | false =>
        have HE : Hid (R = false) := Lib.hid (by rw [← HR.out]; simpa [cntC] using hab)
        clear hab
        go_wp2
        go_ret
        exact ⟨ret_bool HE.out.symm, hb2⟩
      | true =>
        have C1 := Lib.hid (fun W => refFold (str [a]) W (by rw [str_size]; simp))
        have C2 := Lib.hid (fun W => refFold (str [b]) W (by rw [str_size]; simp))
        rw [str_data, show foldL [a] = [foldC a] from rfl] at C1
        rw [str_data, show foldL [b] = [foldC b] from rfl] at C2
        obtain ⟨x, hx⟩ : ∃ x, foldC a = x := ⟨_, rfl⟩
        obtain ⟨y, hy⟩ : ∃ y, foldC b = y := ⟨_, rfl⟩
        rw [hx] at C1
        rw [hy] at C2
        have HE0 : Hid (R = (x == y)) := Lib.hid (by rw [← HR.out, ← hx, ← hy]; rfl)
        clear hab hx hy
        go_wp2_with (go_at_call_of 52 (str [a]); refine (C1.out _).mono ?_; rintro e w3 ⟨rfl, hb3⟩)
        refine (C2.out _).mono ?_
        rintro e w4 ⟨rfl, hb4⟩
        have hb5 := Lib.hid (hb2.trans ((hb3.trans (hb4.mono hb3.size)).mono hb2.size))
        clear hb3 hb4
        by_cases hxy : x = y
        · have HE : Hid (R = true) := Lib.hid (by rw [HE0.out, hxy]; simp)
          subst hxy
          go_wp2
          go_ret
          exact ⟨ret_bool HE.out.symm, hb5.out⟩
        · have HE : Hid (R = false) := Lib.hid (by rw [HE0.out]; simpa using hxy)
          have hne2 := str_ne hxy
          clear hxy
          go_wp2
          go_ret
          exact ⟨ret_bool HE.out.symm, hb5.out⟩
end Go.Proofs.Ytinhihdceijfaaa
