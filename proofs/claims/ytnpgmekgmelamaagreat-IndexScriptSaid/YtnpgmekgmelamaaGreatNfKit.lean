/-
  What is proved: what the laws' helpers return on lists of numbers: outlawkit.Same and Own, and a list appended to a list of one's own. What lay in memory before stands as it stood.
-/
import Derived.Test.YtnpgmekgmelamaaGreatNfTake
import Derived.Laws.AppendOwnNone
namespace Go.Proofs.YtnpgmekgmelamaaGreat
open Go.RowKit Go.Shelf

/-- A list of one's own in memory. -/
def OwnI (W : World) (B : Nat) (v : Value) (zs : List Int) : Prop := W.ownsRow B 3 1 v zs.length (zs.map (Value.int .i64))
theorem OwnI.ints {W : World} {B : Nat} {v : Value} {zs : List Int} (h : OwnI W B v zs) : Ints W v zs := Ints.of_own h
theorem OwnI.later {W W' : World} {B : Nat} {v : Value} {zs : List Int} (h : OwnI W B v zs) (hb : Below W.heap.size W W') : OwnI W' B v zs := by
  obtain ⟨hl, h⟩ := h
  refine ⟨hl, ?_⟩
  rcases h with h | ⟨g, cap, cur, e, hB, hg, r⟩
  · exact .inl h
  · exact .inr ⟨g, cap, cur, e, hB, (hb.block g (Array.getElem?_eq_some_iff.1 hg).1).trans hg, r⟩

/-- A list appended to a list of one's own. -/
theorem appI {ops : Array Oper} {rest : List Oper} {o : Oper} {a : Act} {Q : Exit → Act → World → Prop} {w : World} (B : Nat) {v xv : Value} {ys zs : List Int} (hown : OwnI w B v ys) (hxs : Ints w xv zs) (hn : ys.length + zs.length ≤ 3000000) (hB : B ≤ w.heap.size)
    (hgd : o.guard = none) (sl x : Operand) (ho : o.op = .call { callee := .builtin .append, args := #[sl, x], argTypes := #[22, 22] })
    (hs : a.eval sl = v) (hx : a.eval x = xv)
    (h : ∀ v' w', OwnI w' B v' (ys ++ zs) → w.grownBy w' v.ownBlock → wpList Tryz.prog ops Q rest (a.put o.dst v') w') :
    wpList Tryz.prog ops Q (o :: rest) a w := by
  obtain ⟨i0, hi, hz0, hz1, hz2⟩ := info_parts info_int
  rcases hxs with ⟨rfl, rfl⟩ | ⟨b, cap, rfl, rfl⟩ | ⟨b, off, cap, rfl, _, hc⟩
  · refine wpList_append_own_none hgd sl x 22 ho B 3 i0 1 Tryz.underlying22 hi v ys.length _ hs hown hx ?_
    rw [List.append_nil] at h
    exact h v w hown ⟨rfl, rfl, rfl, Nat.le_refl _, fun _ _ _ => rfl⟩
  · refine wpList_append_own _ hgd sl x 22 ho B 3 i0 (.int .i64 0) 1 8 Tryz.underlying22 hi hz0 hz1 hz2 rfl (by decide) v ys.length _ hs hown b 0 cap [] hx rfl (by intro j u hj; simp at hj) (by intro u hu; simp at hu) (by simp at hn; unfold maxLen; omega) (by simp at hn; omega) hB ?_
    intro v' w' h1 h2 _
    refine h v' w' ?_ h2
    unfold OwnI
    rw [List.length_append, List.map_append]
    exact h1
  · refine wpList_append_own _ hgd sl x 22 ho B 3 i0 (.int .i64 0) 1 8 Tryz.underlying22 hi hz0 hz1 hz2 rfl (by decide) v ys.length _ hs hown ⟨b, off, none⟩ zs.length cap (zs.map (Value.int .i64)) hx (by simp) ?c1 ?c2 ?c3 ?c4 hB ?_
    case c1 =>
      intro j u hj
      have hjl : j < zs.length := by
        have := (List.getElem?_eq_some_iff.1 hj).1
        simpa using this
      have : (⟨b, off, none⟩ : Addr).add j = ⟨b, off + j, none⟩ := by unfold Addr.add; split <;> simp_all
      rw [this, hc j hjl, ← hj]
      simp [List.getD, hjl]
    case c2 => intro u hu; simp at hu; obtain ⟨y, _, rfl⟩ := hu; rfl
    case c3 => unfold maxLen; omega
    case c4 => omega
    intro v' w' h1 h2 _
    refine h v' w' ?_ h2
    unfold OwnI
    rw [List.length_append, List.map_append]
    exact h1

theorem below_appI {w0 w w' : World} {B : Nat} {v : Value} {ys : List Int} (hb : Below B w0 w) (hown : OwnI w B v ys) (hB : B ≤ w.heap.size) (hg : w.grownBy w' v.ownBlock) : Below B w0 w' :=
  hb.grown hg hB (fun k hk => (hown.lt k hk).1)

set_option maxHeartbeats 1000000 in
theorem own_any {w : World} {v : Value} {zs : List Int} (hv : Ints w v zs) (hz : zs.length ≤ 1000000) :
    Calls Tryz.prog 58 #[v] w fun e w' => ∃ v', e = .returned v' ∧ OwnI w' w.heap.size v' zs ∧ Below w.heap.size w w' := by
  have hb0 : Below w.heap.size w (w.alloc (.cells #[] 3)) := (Below.refl _ w).alloc (Nat.le_refl _) _
  have hv0 : Ints (w.alloc (.cells #[] 3)) v zs := hv.below hb0
  have hown : OwnI (w.alloc (.cells #[] 3)) w.heap.size (.slice (some ⟨w.heap.size, 0, none⟩) 0 0) [] := ⟨rfl, .inr ⟨w.heap.size, 0, #[], rfl, Nat.le_refl _, World.alloc_heap_new w _, Nat.le_refl _, Nat.zero_le _, rfl, rfl⟩⟩
  have hsz := hb0.size
  clear hv
  go_enter Tryz.func58, Tryz.ntmps58
  go_wp2_with (at_builtin; refine appI w.heap.size hown hv0 (by simp; omega) hsz rfl _ _ rfl rfl rfl ?_; intro v' w' ho' hg')
  go_ret
  exact ⟨v', rfl, by simpa using ho', below_appI hb0 hown hsz hg'⟩

theorem list_same {a b : List Int} (hl : a.length = b.length) (h : ∀ j, j < a.length → a.getD j 0 = b.getD j 0) : a = b := by
  apply List.ext_getElem hl
  intro j h1 h2
  have := h j h1
  simpa [List.getD, h1, h2] using this

set_option maxHeartbeats 2000000 in
theorem same_any {w : World} {v1 v2 : Value} {a b : List Int} (h1 : Ints w v1 a) (h2 : Ints w v2 b) (ha : a.length ≤ 1000000) :
    Calls Tryz.prog 33 #[v1, v2] w fun e w' => e = .returned (.bool (a == b)) ∧ Below w.heap.size w w' := by
  obtain ⟨p1, c1, rfl, r1⟩ := h1.reads
  obtain ⟨p2, c2, rfl, r2⟩ := h2.reads
  clear h1 h2
  by_cases hl : a.length = b.length
  · have r2' : Hid (∀ W, Below w.heap.size w W → ∀ k, k < a.length → ∃ b' off, p2 = some ⟨b', off, none⟩ ∧ W.cell? ⟨b', off + k, none⟩ = some (.int .i64 (b.getD k 0))) := Lib.hid (fun W hW k hk => r2.out W hW k (by omega))
    clear r2
    have HL := Lib.hid hl
    obtain ⟨R, HR⟩ : ∃ R, Hid ((a == b) = R) := ⟨_, Lib.hid rfl⟩
    rw [HR.out, ← hl]
    clear hl
    have hB0 := Lib.hid (Below.refl w.heap.size w)
    go_enter Tryz.func33, Tryz.ntmps33
    go_wp2
    go_loopg [5] a.length (fun gk s5 wr => ∃ k : Nat, k + gk = a.length ∧ s5 = .int .i64 k ∧ Hid (∀ j, j < k → a.getD j 0 = b.getD j 0) ∧ Hid (Below w.heap.size w wr))
    case atStart => exact ⟨0, by omega, rfl, Lib.hid (fun j hj => absurd hj (Nat.not_lt_zero j)), hB0⟩
    case round =>
      obtain ⟨k, hkg, rfl, HI, HB⟩ := hrel
      clear hB0
      cases gk with
      | zero =>
        have hkz : ¬ ((k : Int) < (a.length : Int)) := by omega
        have HE : Hid (R = true) := Lib.hid (by
          rw [← HR.out, list_same HL.out (fun j hj => HI.out j (by omega))]; simp)
        go_wp2
        go_ret
        rw [HE.out]
        exact ⟨rfl, HB.out⟩
      | succ g' =>
        have hkz : (k : Int) < (a.length : Int) := by omega
        have hkn : k < a.length := by omega
        obtain ⟨b1, o1, rfl, x1⟩ := r1.out wr HB.out k hkn
        obtain ⟨b2, o2, rfl, x2⟩ := r2'.out wr HB.out k hkn
        obtain ⟨x, hx⟩ : ∃ x, a.getD k 0 = x := ⟨_, rfl⟩
        obtain ⟨y, hy⟩ : ∃ y, b.getD k 0 = y := ⟨_, rfl⟩
        rw [hx] at x1
        rw [hy] at x2
        by_cases e : x = y
        · have HE : Hid (a.getD k 0 = b.getD k 0) := Lib.hid (by rw [hx, hy, e])
          clear hx hy
          subst e
          go_wp2
          go_quiet (fail)
          go_wp2
          go_roundg g'
          case measure => omega
          case rel => exact ⟨k + 1, by omega, iv (by omega), Lib.hid (fun j hj => by
            by_cases ej : j = k
            · subst ej; exact HE.out
            · exact HI.out j (by omega)), Lib.hid (below_drewN HB.out _)⟩
        · have HE : Hid (R = false) := Lib.hid (by
            rw [← HR.out, beq_eq_false_iff_ne]
            intro h; apply e; rw [← hx, ← hy, h])
          clear hx hy
          go_wp2
          have hne : (x != y) = true := by simpa using e
          go_quiet (fail)
          go_wp2
          try rw [Exit.noGoto_ret]
          go_ret
          rw [HE.out]
          exact ⟨rfl, below_drewN HB.out _⟩
  · have HE : Hid ((a == b) = false) := Lib.hid (by
      rw [beq_eq_false_iff_ne]
      intro h; exact hl (by rw [h]))
    rw [HE.out]
    have hlz : ¬ ((a.length : Int) = (b.length : Int)) := by omega
    clear hl
    go_enter Tryz.func33, Tryz.ntmps33
    go_wp2
    go_ret
    exact ⟨rfl, Below.refl _ _⟩
end Go.Proofs.YtnpgmekgmelamaaGreat
