/-
  What is proved: a list of globs in memory, as it is read; what outlawkit.Same says of two of them.
-/
import Derived.Test.YtnpgmekgmelamaaGreatNfKit
import Derived.Test.YtnpgmekgmelamaaGreatIxMath
import Derived.Handy
import Derived.Laws.StructEq
namespace Go.Proofs.YtnpgmekgmelamaaGreat
open Go.RowKit Go.Shelf

def gCells (g : G) : List Value := [.int .i64 g.id, .string g.p, .bool g.f]
/-- A list of globs in memory, as it is read. -/
def GlobsR (W : World) (v : Value) (L : List G) : Prop := ∃ a cap, v = .slice a L.length cap ∧ ∀ j x, L[j]? = some x → ∃ b off, a = some ⟨b, off, none⟩ ∧ b < W.heap.size ∧ ∀ i, i < 3 → W.cell? ⟨b, off + j * 3 + i, none⟩ = (gCells x)[i]?
theorem GlobsR.below {W W' : World} {v : Value} {l : List G} (h : GlobsR W v l) (hb : Below W.heap.size W W') : GlobsR W' v l := by
  obtain ⟨a, cap, e, h⟩ := h
  refine ⟨a, cap, e, fun j x hx => ?_⟩
  obtain ⟨b, off, e2, h1, h2⟩ := h j x hx
  exact ⟨b, off, e2, by have := hb.size; omega, fun i hi => by rw [World.cell?_of_block (w := W) (hb.block b h1)]; exact h2 i hi⟩
instance : DecidableEq G := fun a b => by
  cases a; cases b
  rw [G.mk.injEq]
  exact inferInstance

theorem glob_ne {x y : G} (h : x ≠ y) : (x.id == y.id) = false ∨ x.id = y.id ∧ ((x.p.toList == y.p.toList) = false ∨ x.p = y.p ∧ x.f = !y.f) := by
  cases x with | mk i s f =>
  cases y with | mk i' s' f' =>
  dsimp only
  by_cases h1 : i = i'
  · refine .inr ⟨h1, ?_⟩
    by_cases h2 : s = s'
    · refine .inr ⟨h2, ?_⟩
      subst h1 h2
      cases f <;> cases f' <;> simp at h ⊢
    · left
      rw [beq_eq_false_iff_ne]
      intro e
      rw [ByteArray.toList_eq, ByteArray.toList_eq] at e
      exact h2 (ByteArray.ext (Array.ext' e))
  · left
    simpa using h1

set_option maxHeartbeats 2000000 in
theorem sameG_any {w : World} {v1 v2 : Value} {a b : List G} (h1 : GlobsR w v1 a) (h2 : GlobsR w v2 b) (ha : a.length ≤ 1000000) :
    Calls Tryz.prog 39 #[v1, v2] w fun e w' => e = .returned (.bool (decide (a = b))) ∧ Below w.heap.size w w' := by
  obtain ⟨p1, c1, rfl, r1⟩ := h1
  obtain ⟨p2, c2, rfl, r2⟩ := h2
  by_cases hl : a.length = b.length
  · have R1 : Hid (∀ W, Below w.heap.size w W → ∀ k (hk : k < a.length), ∃ b' off, p1 = some ⟨b', off, none⟩ ∧ W.cell? ⟨b', off + k * 3, none⟩ = some (.int .i64 a[k].id) ∧ W.cell? ⟨b', off + k * 3 + 1, none⟩ = some (.string a[k].p) ∧ W.cell? ⟨b', off + k * 3 + 2, none⟩ = some (.bool a[k].f)) := Lib.hid (fun W hW k hk => by
      obtain ⟨b', off, e, hlt, hc⟩ := r1 k a[k] (List.getElem?_eq_getElem hk)
      have hc' : ∀ i, i < 3 → W.cell? ⟨b', off + k * 3 + i, none⟩ = (gCells a[k])[i]? := fun i hi => by rw [World.cell?_of_block (w := w) (hW.block b' hlt)]; exact hc i hi
      exact ⟨b', off, e, hc' 0 (by decide), hc' 1 (by decide), hc' 2 (by decide)⟩)
    have R2 : Hid (∀ W, Below w.heap.size w W → ∀ k (hk : k < b.length), ∃ b' off, p2 = some ⟨b', off, none⟩ ∧ W.cell? ⟨b', off + k * 3, none⟩ = some (.int .i64 b[k].id) ∧ W.cell? ⟨b', off + k * 3 + 1, none⟩ = some (.string b[k].p) ∧ W.cell? ⟨b', off + k * 3 + 2, none⟩ = some (.bool b[k].f)) := Lib.hid (fun W hW k hk => by
      obtain ⟨b', off, e, hlt, hc⟩ := r2 k b[k] (List.getElem?_eq_getElem hk)
      have hc' : ∀ i, i < 3 → W.cell? ⟨b', off + k * 3 + i, none⟩ = (gCells b[k])[i]? := fun i hi => by rw [World.cell?_of_block (w := w) (hW.block b' hlt)]; exact hc i hi
      exact ⟨b', off, e, hc' 0 (by decide), hc' 1 (by decide), hc' 2 (by decide)⟩)
    clear r1 r2
    have HL := Lib.hid hl
    obtain ⟨R, HR⟩ : ∃ R, Hid (decide (a = b) = R) := ⟨_, Lib.hid rfl⟩
    rw [HR.out, ← hl]
    clear hl
    have hB0 := Lib.hid (Below.refl w.heap.size w)
    go_enter Tryz.func39, Tryz.ntmps39
    go_wp2
    go_loopg [5] a.length (fun gk s5 wr => ∃ k : Nat, k + gk = a.length ∧ s5 = .int .i64 k ∧ Hid (∀ j, j < k → a[j]? = b[j]?) ∧ Hid (Below w.heap.size w wr))
    case atStart => exact ⟨0, by omega, rfl, Lib.hid (fun j hj => absurd hj (Nat.not_lt_zero j)), hB0⟩
    case round =>
      obtain ⟨k, hkg, rfl, HI, HB⟩ := hrel
      clear hB0
      cases gk with
      | zero =>
        have hkz : ¬ ((k : Int) < (a.length : Int)) := by omega
        have HE : Hid (R = true) := Lib.hid (by
          rw [← HR.out]
          refine decide_eq_true (List.ext_getElem? fun j => ?_)
          by_cases hj : j < k
          · exact HI.out j hj
          · rw [List.getElem?_eq_none (by omega), List.getElem?_eq_none (by have := HL.out; omega)])
        go_wp2
        go_ret
        rw [HE.out]
        exact ⟨rfl, HB.out⟩
      | succ g' =>
        have hkz : (k : Int) < (a.length : Int) := by omega
        have hkn : k < a.length := by omega
        have hkb : k < b.length := by have := HL.out; omega
        obtain ⟨b1, o1, rfl, x1, x2, x3⟩ := R1.out wr HB.out k hkn
        obtain ⟨b2, o2, rfl, y1, y2, y3⟩ := R2.out wr HB.out k hkb
        by_cases e : a[k] = b[k]
        · have HE : Hid (a[k]? = b[k]?) := Lib.hid (by rw [List.getElem?_eq_getElem hkn, List.getElem?_eq_getElem hkb, e])
          rw [← e] at y1 y2 y3
          obtain ⟨i, hi⟩ : ∃ i, a[k].id = i := ⟨_, rfl⟩
          obtain ⟨s, hs⟩ : ∃ s, a[k].p = s := ⟨_, rfl⟩
          obtain ⟨f, hf⟩ : ∃ f, a[k].f = f := ⟨_, rfl⟩
          rw [hi] at x1 y1
          rw [hs] at x2 y2
          rw [hf] at x3 y3
          clear hi hs hf e
          go_wp2
          go_quiet (fail)
          go_wp2
          go_roundg g'
          case measure => omega
          case rel => exact ⟨k + 1, by omega, iv (by omega), Lib.hid (fun j hj => by
            by_cases ej : j = k
            · subst ej; exact HE.out
            · exact HI.out j (by omega)), Lib.hid (below_drewN HB.out _)⟩
        · have HE : Hid (R = false) := Lib.hid (by
            rw [← HR.out]
            refine decide_eq_false fun h => e ?_
            subst h; rfl)
          have hne := glob_ne e
          obtain ⟨i, hi⟩ : ∃ i, a[k].id = i := ⟨_, rfl⟩
          obtain ⟨s, hs⟩ : ∃ s, a[k].p = s := ⟨_, rfl⟩
          obtain ⟨f, hf⟩ : ∃ f, a[k].f = f := ⟨_, rfl⟩
          obtain ⟨i', hi'⟩ : ∃ i, b[k].id = i := ⟨_, rfl⟩
          obtain ⟨s', hs'⟩ : ∃ s, b[k].p = s := ⟨_, rfl⟩
          obtain ⟨f', hf'⟩ : ∃ f, b[k].f = f := ⟨_, rfl⟩
          rw [hi, hs, hf, hi', hs', hf'] at hne
          rw [hi] at x1
          rw [hs] at x2
          rw [hf] at x3
          rw [hi'] at y1
          rw [hs'] at y2
          rw [hf'] at y3
          clear hi hs hf e hi' hs' hf'
          rcases hne with hne | ⟨rfl, hne | ⟨rfl, rfl⟩⟩
          · go_wp2
            go_quiet (fail)
            go_wp2
            try rw [Exit.noGoto_ret]
            go_ret
            rw [HE.out]
            exact ⟨rfl, below_drewN HB.out _⟩
          · go_wp2
            go_quiet (fail)
            go_wp2
            try rw [Exit.noGoto_ret]
            go_ret
            rw [HE.out]
            exact ⟨rfl, below_drewN HB.out _⟩
          · have hne : ((!f') == f') = false := by cases f' <;> rfl
            go_wp2
            go_quiet (fail)
            go_wp2
            try rw [Exit.noGoto_ret]
            go_ret
            rw [HE.out]
            exact ⟨rfl, below_drewN HB.out _⟩
  · have HE : Hid (decide (a = b) = false) := Lib.hid (decide_eq_false fun h => hl (by rw [h]))
    rw [HE.out]
    have hlz : ¬ ((a.length : Int) = (b.length : Int)) := by omega
    clear hl
    go_enter Tryz.func39, Tryz.ntmps39
    go_wp2
    go_ret
    exact ⟨rfl, Below.refl _ _⟩
end Go.Proofs.YtnpgmekgmelamaaGreat
