/-
  What is proved: what index.New returns, and that the chapter's example has its result.
-/
import Derived.Test.YtnpgmekgmelamaaGreatIxMat
import Derived.Test.YtnpgmekgmelamaaGreatNfKit
namespace Go.Proofs.YtnpgmekgmelamaaGreat
open Go.RowKit Go.Shelf Go.Maps

theorem inew_any (most : Int) (w : World) :
    Calls Tryz.prog 28 #[.int .i64 most] w fun e w' => ∃ x col, e = .returned (.pointer (some ⟨x, 0, none⟩)) ∧ Idx w' x [] 0 w.heap.size col ∧ Below w.heap.size w w' := by
  refine (inew_raw most w).mono ?_
  rintro e w' ⟨x, bg, bl, bo, m, rfl, h1, h2, ho, hg, hl, hoo, l1, l2, l3, l4, n1, n2, n3, hb⟩
  have lt : ∀ {b : Nat} {o : Obj}, w'.heap[b]? = some o → b < w'.heap.size := fun h => (Array.getElem?_eq_some_iff.1 h).1
  have mk : ∀ {b : Nat} (k : TypeId), w'.heap[b]? = some (.map #[] 0) → MapL k w' b 0 (fun _ => none) := fun k h =>
    ⟨_, ⟨#[], 0, h, ⟨by simp, Go.MapKept.stamped_empty 0, by simp⟩, Nat.le_refl _, rfl⟩, rfl, fun kl _ => ⟨rfl, fun v hv => (by cases hv)⟩⟩
  refine ⟨x, fun b => if b = x then .obj else if b = bg then .globs else if b = bl then .lits else if b = bo then .others else .free, rfl, ⟨m, bg, bl, bo, 0, 0, fun _ => none, fun _ => 0, ho, ⟨h1, h2⟩, List.Pairwise.nil, fun g hg => (by cases hg), fun g hg => (by cases hg), Nat.zero_le _, (mk _ hg).congr (fun y hy => ?_), Nat.le_refl _, Nat.le_refl _, (mk _ hl).congr (fun y hy => ?_), fun t v hv => (by cases hv), fun t _ g hg => (by cases hg), (mk _ hoo).congr (fun y hy => ?_), fun g hg => (by cases hg), if_pos rfl, ?_, ?_, ?_, fun k hk => ?_⟩, hb⟩
  · obtain ⟨j, rfl, _⟩ := keysI hy; rfl
  · cases y <;> rfl
  · obtain ⟨j, rfl, _⟩ := keysI hy; rfl
  · rw [if_neg (by omega), if_pos rfl]
  · rw [if_neg (by omega), if_neg (by omega), if_pos rfl]
  · rw [if_neg (by omega), if_neg (by omega), if_neg (by omega), if_pos rfl]
  · by_cases e1 : k = x
    · subst e1; exact ⟨l4, ho.lt⟩
    · rw [if_neg e1] at hk
      by_cases e2 : k = bg
      · subst e2; exact ⟨l1, lt hg⟩
      · rw [if_neg e2] at hk
        by_cases e3 : k = bl
        · subst e3; exact ⟨by omega, lt hl⟩
        · rw [if_neg e3] at hk
          by_cases e4 : k = bo
          · subst e4; exact ⟨by omega, lt hoo⟩
          · rw [if_neg e4] at hk
            exact absurd rfl hk

/-- Put and Match, from a world on: what the index is made of is new there. -/
theorem put_from {w0 W : World} {x : Nat} {L : List G} {N : Nat} {col : Nat → Col} (H : Idx W x L N w0.heap.size col) (hb : Below w0.heap.size w0 W) (i : Int) (hi : (Lit.int .i64 i).wf = true) (p : ByteArray) (f : Bool) (hp : p.size ≤ 1000000) (hN : N < 1000000)
    (HS : keyG ⟨i, p, f⟩ = none → checkN p.size = 0 → SortsN ((cntL f (normP p)).filter fun c => !wildC c).length) :
    Calls Tryz.prog 41 #[.pointer (some ⟨x, 0, none⟩), .int .i64 i, .string p, .bool f] W fun e w' => e = .returned (.int .i64 (putE L i p)) ∧ ∃ col', Idx w' x (putL L i p f) (N + 1) w0.heap.size col' ∧ Below w0.heap.size w0 w' := by
  refine (iput_any H i hi p f hp hN HS).mono ?_
  rintro e w' ⟨rfl, col', hI, hS⟩
  exact ⟨rfl, col', hI, hb.trans (hS.from hb.size (fun k hk => H.free (.inl hk)))⟩
theorem drop_from {w0 W : World} {x : Nat} {L : List G} {N : Nat} {col : Nat → Col} (H : Idx W x L N w0.heap.size col) (hb : Below w0.heap.size w0 W) (i : Int) (hi : (Lit.int .i64 i).wf = true) (hN : N < 1000000) :
    Calls Tryz.prog 42 #[.pointer (some ⟨x, 0, none⟩), .int .i64 i] W fun e w' => e = .returned (.int .i64 (dropE L i)) ∧ ∃ col', Idx w' x (delG i L) (N + 1) w0.heap.size col' ∧ Below w0.heap.size w0 w' := by
  refine (idrop_any H i hi hN).mono ?_
  rintro e w' ⟨rfl, col', hI, hS⟩
  exact ⟨rfl, col', hI, hb.trans (hS.from hb.size (fun k hk => H.free (.inl hk)))⟩
theorem match_from {w0 W : World} {x : Nat} {L : List G} {N : Nat} {col : Nat → Col} (H : Idx W x L N w0.heap.size col) (hb : Below w0.heap.size w0 W) (hN : N ≤ 1000000) (t : ByteArray) (ht : t.size ≤ 1000000) {ids : List Int} (he : (L.filter (mG t.data.toList)).map (·.id) = ids) :
    Calls Tryz.prog 34 #[.pointer (some ⟨x, 0, none⟩), .string t] W fun e w' => ∃ v, e = .returned v ∧ Idx w' x L N w0.heap.size col ∧ Below w0.heap.size w0 w' ∧ Ints w' v ids ∧ ∀ k, v.ownBlock = some k → W.heap.size ≤ k := by
  refine (imatch_any H hN t ht).mono ?_
  rintro e w' ⟨v, ids', rfl, hb', hrow, rfl⟩
  rw [he] at hrow
  exact ⟨v, rfl, H.below hb', hb.trans (hb'.mono hb.size), Ints.of_own hrow, fun k hk => (hrow.lt k hk).1⟩

theorem ints_lit2 (w : World) (a b : Int) (T : TypeId) : Ints (w.alloc (.cells #[.int .i64 a, .int .i64 b] T)) (.slice (some ⟨w.heap.size, 0, none⟩) 2 2) [a, b] := by
  refine .inr (.inr ⟨w.heap.size, 0, 2, rfl, by rw [World.size_alloc]; exact Nat.lt_succ_self _, fun j hj => ?_⟩)
  have : j = 0 ∨ j = 1 := by simp at hj; omega
  rcases this with rfl | rfl <;> rw [Nat.zero_add, World.cell?_alloc_new] <;> rfl
theorem ints_lit1 (w : World) (a : Int) (T : TypeId) : Ints (w.alloc (.cells #[.int .i64 a] T)) (.slice (some ⟨w.heap.size, 0, none⟩) 1 1) [a] := by
  refine .inr (.inr ⟨w.heap.size, 0, 1, rfl, by rw [World.size_alloc]; exact Nat.lt_succ_self _, fun j hj => ?_⟩)
  have : j = 0 := by simp at hj; omega
  subst this
  rw [Nat.zero_add, World.cell?_alloc_new]; rfl

def lv1 : List G := putL [] 3 ⟨#[97, 42]⟩ false
def lv2 : List G := putL lv1 1 ⟨#[97, 98]⟩ false
def lv3 : List G := putL lv2 2 ⟨#[98]⟩ false

set_option maxRecDepth 100000 in
set_option maxHeartbeats 2000000 in
theorem ilives_any (w : World) : Calls Tryz.prog 26 #[] w fun e w' => e = .returned (.bool true) ∧ Below w.heap.size w w' := by
  have C0 := Lib.hid (inew_any 10 w)
  have C1 : Hid (∀ W x col, Idx W x [] 0 w.heap.size col → Below w.heap.size w W → Calls Tryz.prog 41 #[.pointer (some ⟨x, 0, none⟩), .int .i64 3, .string ⟨#[97, 42]⟩, .bool false] W fun e w' => e = .returned (.int .i64 0) ∧ ∃ col', Idx w' x lv1 1 w.heap.size col' ∧ Below w.heap.size w w') := Lib.hid (fun W x col H hb => by
    have := put_from H hb 3 (by decide) ⟨#[97, 42]⟩ false (by decide) (by decide) (fun _ _ => sortsN_small (by decide +kernel))
    rwa [show putE [] 3 ⟨#[97, 42]⟩ = 0 by decide +kernel] at this)
  have C2 : Hid (∀ W x col, Idx W x lv1 1 w.heap.size col → Below w.heap.size w W → Calls Tryz.prog 41 #[.pointer (some ⟨x, 0, none⟩), .int .i64 1, .string ⟨#[97, 98]⟩, .bool false] W fun e w' => e = .returned (.int .i64 0) ∧ ∃ col', Idx w' x lv2 2 w.heap.size col' ∧ Below w.heap.size w w') := Lib.hid (fun W x col H hb => by
    have := put_from H hb 1 (by decide) ⟨#[97, 98]⟩ false (by decide) (by decide) (fun _ _ => sortsN_small (by decide +kernel))
    rwa [show putE lv1 1 ⟨#[97, 98]⟩ = 0 by decide +kernel] at this)
  have C3 : Hid (∀ W x col, Idx W x lv2 2 w.heap.size col → Below w.heap.size w W → Calls Tryz.prog 41 #[.pointer (some ⟨x, 0, none⟩), .int .i64 2, .string ⟨#[98]⟩, .bool false] W fun e w' => e = .returned (.int .i64 0) ∧ ∃ col', Idx w' x lv3 3 w.heap.size col' ∧ Below w.heap.size w w') := Lib.hid (fun W x col H hb => by
    have := put_from H hb 2 (by decide) ⟨#[98]⟩ false (by decide) (by decide) (fun _ _ => sortsN_small (by decide +kernel))
    rwa [show putE lv2 2 ⟨#[98]⟩ = 0 by decide +kernel] at this)
  have C4 : Hid (∀ W x col, Idx W x lv3 3 w.heap.size col → Below w.heap.size w W → Calls Tryz.prog 34 #[.pointer (some ⟨x, 0, none⟩), .string ⟨#[97, 98]⟩] W fun e w' => ∃ v, e = .returned v ∧ Idx w' x lv3 3 w.heap.size col ∧ Below w.heap.size w w' ∧ Ints w' v [1, 3] ∧ ∀ k, v.ownBlock = some k → W.heap.size ≤ k) := Lib.hid (fun W x col H hb => match_from H hb (by decide) ⟨#[97, 98]⟩ (by decide) (by decide +kernel))
  go_enter Tryz.func26, Tryz.ntmps26
  go_wp2_with fail
  refine C0.out.mono ?_
  rintro e w1 ⟨x, col, rfl, H1, hb1⟩
  go_wp2_with fail
  refine (C1.out _ _ _ H1 hb1).mono ?_
  rintro e w2 ⟨rfl, col2, H2, hb2⟩
  go_wp2_with fail
  refine (C2.out _ _ _ H2 hb2).mono ?_
  rintro e w3 ⟨rfl, col3, H3, hb3⟩
  go_wp2_with fail
  refine (C3.out _ _ _ H3 hb3).mono ?_
  rintro e w4 ⟨rfl, col4, H4, hb4⟩
  clear C0 C1 C2 C3 H1 H2 H3 hb1 hb2 hb3
  go_wp2_with fail
  refine (C4.out _ _ _ H4 hb4).mono ?_
  rintro e w5 ⟨v, rfl, H5, hb5, hi5, _⟩
  clear C4 H4 hb4 H5
  have C5 := Lib.hid (same_any (hi5.below ((Below.refl _ w5).alloc (Nat.le_refl _) (.cells #[.int .i64 1, .int .i64 3] 3))) (ints_lit2 w5 1 3 3) (by decide))
  go_wp2_with fail
  refine C5.out.mono ?_
  rintro e w6 ⟨rfl, hb6⟩
  have hb := (hb5.alloc hb5.size _).trans (hb6.mono (by have := hb5.size; simp; omega))
  clear hb6 C5 hi5
  go_wp2
  go_ret
  exact ⟨rfl, hb⟩
end Go.Proofs.YtnpgmekgmelamaaGreat
