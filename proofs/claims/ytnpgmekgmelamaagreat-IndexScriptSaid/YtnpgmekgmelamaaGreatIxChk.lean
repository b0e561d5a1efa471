/-
  What is proved: what Has, Len and check return at an index.
-/
import Derived.Test.YtnpgmekgmelamaaGreatIxAt
import Derived.Test.YtnpgmekgmelamaaGreatIxNew
namespace Go.Proofs.YtnpgmekgmelamaaGreat
open Go.RowKit Go.Shelf Go.Maps

section
variable {w : World} {x : Nat} {L : List G} {N base : Nat} {col : Nat → Col} {most bg bl bo cl co : Nat} {Fl : List UInt8 → Option Value} {ao : Int → Nat}

theorem globF_is (L : List G) (i : Int) : (globF L (.int .i64 i)).isSome = hasG L i := by
  show ((atI L i).map globV).isSome = _
  rw [Option.isSome_map, atI_has]
theorem globF_shape (L : List G) (i : Int) : ∃ a s f, (globF L (.int .i64 i)).getD zeroG = .agg #[.int .i64 a, .string s, .bool f] := by
  show ∃ a s f, ((atI L i).map globV).getD zeroG = _
  cases atI L i with
  | none => exact ⟨0, ⟨#[]⟩, false, rfl⟩
  | some g => exact ⟨g.id, g.p, g.f, rfl⟩
theorem IdxAt.has (H : IdxAt w x L N base col most bg bl bo cl co Fl ao) (i : Int) (hi : (Lit.int .i64 i).wf = true) :
    Calls Tryz.prog 37 #[.pointer (some ⟨x, 0, none⟩), .int .i64 i] w fun e w' => e = .returned (.bool (hasG L i)) ∧ Below w.heap.size w w' := by
  have := ihas_raw H.obj H.globs i hi (globF_shape L i)
  rwa [globF_is] at this
theorem IdxAt.lenA (H : IdxAt w x L N base col most bg bl bo cl co Fl ao) :
    Calls Tryz.prog 36 #[.pointer (some ⟨x, 0, none⟩)] w fun e w' => e = .returned (.int .i64 (L.length : Int)) ∧ w' = w := ilen_raw H.obj H.globs

/-- Why a glob may not be put. -/
def putE (L : List G) (i : Int) (p : ByteArray) : Int := if i < 0 then 2 else if hasG L i = true then 8 else if checkN p.size ≠ 0 then checkN p.size else if 200 ≤ L.length then 13 else 0

set_option maxHeartbeats 1000000 in
theorem icheck_core (x : Nat) (i : Int) (p : ByteArray) (w : World) (hb : Bool) (c n r : Int) (hr : r = if i < 0 then 2 else if hb = true then 8 else if c ≠ 0 then c else if 200 ≤ n then 13 else 0)
    (C1 : Hid (Calls Tryz.prog 37 #[.pointer (some ⟨x, 0, none⟩), .int .i64 i] w fun e w' => e = .returned (.bool hb) ∧ Below w.heap.size w w'))
    (C2 : Hid (∀ W, Calls Tryz.prog 21 #[.string p] W fun e w' => e = .returned (.int .i64 c) ∧ w' = W))
    (C3 : Hid (∀ W, Below w.heap.size w W → Calls Tryz.prog 36 #[.pointer (some ⟨x, 0, none⟩)] W fun e w' => e = .returned (.int .i64 n) ∧ w' = W)) :
    Calls Tryz.prog 76 #[.pointer (some ⟨x, 0, none⟩), .int .i64 i, .string p] w fun e w' => e = .returned (.int .i64 r) ∧ Below w.heap.size w w' := by
  by_cases h1 : i < 0
  · rw [if_pos h1] at hr
    subst hr
    go_enter Tryz.func76, Tryz.ntmps76
    go_wp2
    go_ret
    exact ⟨rfl, Below.refl _ _⟩
  · rw [if_neg h1] at hr
    cases hb with
    | true =>
      rw [if_pos rfl] at hr
      subst hr
      go_enter Tryz.func76, Tryz.ntmps76
      go_wp2_with (go_at_call 37; refine C1.out.mono ?_; rintro e w1 ⟨rfl, hb1⟩)
      go_ret
      exact ⟨rfl, hb1⟩
    | false =>
      rw [if_neg (by decide)] at hr
      by_cases h3 : c = 0
      · rw [if_neg (by simpa using h3)] at hr
        by_cases h4 : 200 ≤ n
        · rw [if_pos h4] at hr
          subst hr h3
          go_enter Tryz.func76, Tryz.ntmps76
          go_wp2_with (first
            | (go_at_call 37; refine C1.out.mono ?_; rintro e w1 ⟨rfl, hb1⟩)
            | (go_at_call 21; refine (C2.out _).mono ?_; rintro e w2 ⟨rfl, rfl⟩)
            | (go_at_call 36; refine (C3.out _ hb1).mono ?_; rintro e w2 ⟨rfl, rfl⟩))
          go_ret
          exact ⟨rfl, hb1⟩
        · rw [if_neg h4] at hr
          subst hr h3
          go_enter Tryz.func76, Tryz.ntmps76
          go_wp2_with (first
            | (go_at_call 37; refine C1.out.mono ?_; rintro e w1 ⟨rfl, hb1⟩)
            | (go_at_call 21; refine (C2.out _).mono ?_; rintro e w2 ⟨rfl, rfl⟩)
            | (go_at_call 36; refine (C3.out _ hb1).mono ?_; rintro e w2 ⟨rfl, rfl⟩))
          go_ret
          exact ⟨rfl, hb1⟩
      · rw [if_pos h3] at hr
        subst hr
        go_enter Tryz.func76, Tryz.ntmps76
        go_wp2_with (first
          | (go_at_call 37; refine C1.out.mono ?_; rintro e w1 ⟨rfl, hb1⟩)
          | (go_at_call 21; refine (C2.out _).mono ?_; rintro e w2 ⟨rfl, rfl⟩))
        go_ret
        exact ⟨rfl, hb1⟩
theorem IdxAt.check (H : IdxAt w x L N base col most bg bl bo cl co Fl ao) (i : Int) (hi : (Lit.int .i64 i).wf = true) (p : ByteArray) :
    Calls Tryz.prog 76 #[.pointer (some ⟨x, 0, none⟩), .int .i64 i, .string p] w fun e w' => e = .returned (.int .i64 (putE L i p)) ∧ Below w.heap.size w w' :=
  icheck_core x i p w (hasG L i) (checkN p.size) (L.length : Int) (putE L i p) (by unfold putE; split; rfl; split; rfl; split; rfl; simp only [show ((200 : Int) ≤ (L.length : Int)) = (200 ≤ L.length) from propext (by omega)]) (Lib.hid (H.has i hi)) (Lib.hid fun W => check_any p W)
    (Lib.hid fun W hW => (H.same hW.size (fun k hk _ => hW.block k hk)).lenA)
end
end Go.Proofs.YtnpgmekgmelamaaGreat
