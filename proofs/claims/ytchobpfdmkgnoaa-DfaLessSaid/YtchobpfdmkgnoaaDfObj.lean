/-
  What is proved: the builder of a table in memory, what its map knows; and what (*builder).number does: it finds a list's number, or gives it the next one. Of what lay in memory before, only the builder's own blocks are changed.
-/
import Derived.Test.YtchobpfdmkgnoaaDfMath
import Derived.Test.YtchobpfdmkgnoaaDfKey
import Derived.Maps.OwnSet
namespace Go.Proofs.Ytchobpfdmkgnoaa
open Go.RowKit Go.Shelf Go.Maps

/-! The builder's block -/
structure BldC (c : Array Value) (nb : Nat) (P SA : List UInt8) (cl : Nat → Nat) (m : Nat) (sv : Value) : Prop where
  size : c.size = 261
  c0 : c[0]? = some (.pointer (some ⟨nb, 0, none⟩))
  c1 : c[1]? = some (.string (str P))
  c2 : c[2]? = some (.string (str SA))
  cls : ∀ i, i < 256 → c[3 + i]? = some (.int .i64 (cl i : Int))
  c4 : c[259]? = some (.map (some m))
  c5 : c[260]? = some sv
def BldAt (W : World) (b nb : Nat) (P SA : List UInt8) (cl : Nat → Nat) (m : Nat) (sv : Value) : Prop :=
  ∃ c, W.heap[b]? = some (.cells c 62 (0, 0)) ∧ BldC c nb P SA cl m sv
theorem BldAt.lt {W : World} {b nb : Nat} {P SA : List UInt8} {cl : Nat → Nat} {m : Nat} {sv : Value} (h : BldAt W b nb P SA cl m sv) : b < W.heap.size := by
  obtain ⟨c, hc, _⟩ := h; exact (Array.getElem?_eq_some_iff.1 hc).1
theorem BldAt.same {W W' : World} {b nb : Nat} {P SA : List UInt8} {cl : Nat → Nat} {m : Nat} {sv : Value} (h : BldAt W b nb P SA cl m sv) (e : W'.heap[b]? = W.heap[b]?) : BldAt W' b nb P SA cl m sv := by
  obtain ⟨c, hc, h⟩ := h; exact ⟨c, e.trans hc, h⟩
theorem cell_heap {W : World} {b : Nat} {c : Array Value} {t : TypeId} {fr : Nat × Nat} (h : W.heap[b]? = some (.cells c t fr)) (i : Nat) : W.cell? ⟨b, i, none⟩ = c[i]? := by simp [World.cell?, h]
theorem frozen_heap {W : World} {b : Nat} {c : Array Value} {t : TypeId} (h : W.heap[b]? = some (.cells c t (0, 0))) (i : Nat) : W.frozen? ⟨b, i, none⟩ = false := by simp [World.frozen?, h]
section
variable {W : World} {b nb : Nat} {P SA : List UInt8} {cl : Nat → Nat} {m : Nat} {sv : Value}
theorem BldAt.c0 (h : BldAt W b nb P SA cl m sv) : W.cell? ⟨b, 0, none⟩ = some (.pointer (some ⟨nb, 0, none⟩)) := by obtain ⟨c, hc, h⟩ := h; rw [cell_heap hc]; exact h.c0
theorem BldAt.c1 (h : BldAt W b nb P SA cl m sv) : W.cell? ⟨b, 1, none⟩ = some (.string (str P)) := by obtain ⟨c, hc, h⟩ := h; rw [cell_heap hc]; exact h.c1
theorem BldAt.c2 (h : BldAt W b nb P SA cl m sv) : W.cell? ⟨b, 2, none⟩ = some (.string (str SA)) := by obtain ⟨c, hc, h⟩ := h; rw [cell_heap hc]; exact h.c2
theorem BldAt.cls (h : BldAt W b nb P SA cl m sv) {i : Nat} (hi : i < 256) : W.cell? ⟨b, 3 + i, none⟩ = some (.int .i64 (cl i : Int)) := by obtain ⟨c, hc, h⟩ := h; rw [cell_heap hc]; exact h.cls i hi
theorem BldAt.c4 (h : BldAt W b nb P SA cl m sv) : W.cell? ⟨b, 259, none⟩ = some (.map (some m)) := by obtain ⟨c, hc, h⟩ := h; rw [cell_heap hc]; exact h.c4
theorem BldAt.c5 (h : BldAt W b nb P SA cl m sv) : W.cell? ⟨b, 260, none⟩ = some sv := by obtain ⟨c, hc, h⟩ := h; rw [cell_heap hc]; exact h.c5
theorem BldAt.fz (h : BldAt W b nb P SA cl m sv) (i : Nat) : W.frozen? ⟨b, i, none⟩ = false := by obtain ⟨c, hc, _⟩ := h; exact frozen_heap hc i
theorem BldAt.put (h : BldAt W b nb P SA cl m sv) (sv' : Value) : BldAt (W.setCell ⟨b, 260, none⟩ sv') b nb P SA cl m sv' := by
  obtain ⟨c, hc, h⟩ := h
  refine ⟨_, obj_set sv' hc, ⟨by simpa using h.size, ?_, ?_, ?_, ?_, ?_, ?_⟩⟩
  · rw [Array.getElem?_setIfInBounds_ne (by decide)]; exact h.c0
  · rw [Array.getElem?_setIfInBounds_ne (by decide)]; exact h.c1
  · rw [Array.getElem?_setIfInBounds_ne (by decide)]; exact h.c2
  · intro i hi; rw [Array.getElem?_setIfInBounds_ne (by omega)]; exact h.cls i hi
  · rw [Array.getElem?_setIfInBounds_ne (by decide)]; exact h.c4
  · rw [Array.getElem?_setIfInBounds_self]; rw [if_pos (by rw [h.size]; decide)]
theorem BldAt.putCls (h : BldAt W b nb P SA cl m sv) {i k : Nat} (hi : i < 256) : BldAt (W.setCell ⟨b, 3 + i, none⟩ (.int .i64 (k : Int))) b nb P SA (fun j => if j = i then k else cl j) m sv := by
  obtain ⟨c, hc, h⟩ := h
  refine ⟨_, obj_set _ hc, ⟨by simpa using h.size, ?_, ?_, ?_, ?_, ?_, ?_⟩⟩
  · rw [Array.getElem?_setIfInBounds_ne (by omega)]; exact h.c0
  · rw [Array.getElem?_setIfInBounds_ne (by omega)]; exact h.c1
  · rw [Array.getElem?_setIfInBounds_ne (by omega)]; exact h.c2
  · intro j hj
    by_cases e : j = i
    · subst e; rw [Array.getElem?_setIfInBounds_self, if_pos (by rw [h.size]; omega), if_pos rfl]
    · rw [Array.getElem?_setIfInBounds_ne (by omega), if_neg e]; exact h.cls j hj
  · rw [Array.getElem?_setIfInBounds_ne (by omega)]; exact h.c4
  · rw [Array.getElem?_setIfInBounds_ne (by omega)]; exact h.c5
end

/-! What the map knows -/
def keyK (l : List Int) : Lit := .string (keyL l)
theorem keyK_lit (l : List Int) : WideAt.IsKeyLit (keyK l) := trivial
theorem keyK_inj {a b : List Int} (ha : Small a) (hb : Small b) (h : keyK a = keyK b) : a = b := by
  unfold keyK at h
  injection h with h
  exact keyL_inj ha hb h
structure Knows (M : DataW Unit) (ss : List (List Int)) : Prop where
  isMap : Maps.IsMap M
  has : ∀ l, Small l → Maps.has M (keyK l) = decide (l ∈ ss)
  at' : ∀ l, Small l → l ∈ ss → ∀ z, M.atKey (keyK l) z = .lit (.int .i64 (ss.idxOf l : Int))
theorem Knows.none : Knows (.map []) [] := ⟨isMap_empty, fun l _ => by simp [Maps.has], fun l _ h => by simp at h⟩
theorem Knows.more {M : DataW Unit} {ss : List (List Int)} {l : List Int} (h : Knows M ss) (hl : Small l) (hn : l ∉ ss) : Knows (M.put (keyK l) (.lit (.int .i64 (ss.length : Int)))) (ss ++ [l]) := by
  refine ⟨h.isMap.put _ _, fun x hx => ?_, fun x hx hm z => ?_⟩
  · by_cases e : x = l
    · subst e; rw [has_put_same h.isMap (keyK_lit _)]; simp
    · rw [has_put_other (fun e2 => e (keyK_inj hx hl e2)), h.has x hx]
      simp [e]
  · by_cases e : x = l
    · subst e; rw [atKey_put_same h.isMap (keyK_lit _), idx_new hn]
    · have hm' : x ∈ ss := by simpa [e] using hm
      rw [atKey_put_other (fun e2 => e (keyK_inj hx hl e2)), h.at' x hx hm', idx_pre (List.prefix_append _ _) hm']

theorem string_law : Keyed Try.prog 9 := string_keyed Try.underlying9
theorem zero_int (w : World) : (zeroValue 3).run Try.prog w = .ok (.int .i64 0) w := by kernel_rfl

/-- Only the builder's blocks are changed. -/
structure Off (b m : Nat) (sv : Value) (W W' : World) : Prop where
  os : W'.os = W.os
  tape : W'.tape = W.tape
  output : W'.output = W.output
  size : W.heap.size ≤ W'.heap.size
  block : ∀ k, k < W.heap.size → k ≠ b → k ≠ m → sv.ownBlock ≠ some k → W'.heap[k]? = W.heap[k]?
def NewS (sv sv' : Value) (W : World) : Prop := ∀ k, sv'.ownBlock = some k → sv.ownBlock = some k ∨ W.heap.size ≤ k
theorem Off.refl (b m : Nat) (sv : Value) (W : World) : Off b m sv W W := ⟨rfl, rfl, rfl, Nat.le_refl _, fun _ _ _ _ _ => rfl⟩
theorem NewS.refl (sv : Value) (W : World) : NewS sv sv W := fun _ h => .inl h
theorem Off.trans {b m : Nat} {sv sv1 : Value} {W W1 W2 : World} (h : Off b m sv W W1) (hn : NewS sv sv1 W) (h' : Off b m sv1 W1 W2) : Off b m sv W W2 :=
  ⟨h'.os.trans h.os, h'.tape.trans h.tape, h'.output.trans h.output, Nat.le_trans h.size h'.size, fun k hk h1 h2 h3 =>
    (h'.block k (by have := h.size; omega) h1 h2 (fun e => by
      rcases hn k e with e | e
      · exact h3 e
      · omega)).trans (h.block k hk h1 h2 h3)⟩
theorem NewS.trans {sv sv1 sv2 : Value} {W W1 : World} (h : NewS sv sv1 W) (hs : W.heap.size ≤ W1.heap.size) (h' : NewS sv1 sv2 W1) : NewS sv sv2 W := fun k hk => by
  rcases h' k hk with e | e
  · exact h k e
  · exact .inr (by omega)
theorem Off.of_below {b m : Nat} {sv : Value} {W W' : World} (h : Below W.heap.size W W') : Off b m sv W W' := ⟨h.os, h.tape, h.output, h.size, fun k hk _ _ _ => h.block k hk⟩
theorem Off.below {b m : Nat} {sv : Value} {W W' : World} (h : Off b m sv W W') {B : Nat} (hB : B ≤ W.heap.size) (hb : B ≤ b) (hm : B ≤ m) (hs : ∀ k, sv.ownBlock = some k → B ≤ k) : Below B W W' :=
  ⟨h.os, h.tape, h.output, h.size, fun k hk => h.block k (by omega) (by omega) (by omega) (fun e => by have := hs k e; omega)⟩
theorem Off.drew {b m : Nat} {sv : Value} {W W' : World} (h : Off b m sv W W') : Off b m sv W W'.drew := ⟨h.os, h.tape, h.output, h.size, h.block⟩

/-! Lists and what lies around them -/
theorem Ints.kept {W W' : World} {v : Value} {zs : List Int} (h : Ints W v zs) (hs : ∀ k, v.ownBlock = some k → k < W.heap.size → W'.heap[k]? = W.heap[k]?) (hz : W.heap.size ≤ W'.heap.size) : Ints W' v zs := by
  rcases h with h | h | ⟨b, off, cap, e, hlt, hc⟩
  · exact .inl h
  · exact .inr (.inl h)
  · refine .inr (.inr ⟨b, off, cap, e, by omega, fun j hj => ?_⟩)
    have := hs b (by rw [e]; rfl) hlt
    rw [World.cell?_of_block (w := W) this]; exact hc j hj
theorem row_kept {W W' : World} {base n size : Nat} {t : TypeId} {v : Value} {xs : List Value} (h : W.ownsRow base t size v n xs) (hs : ∀ k, v.ownBlock = some k → W'.heap[k]? = W.heap[k]?) : W'.ownsRow base t size v n xs := by
  obtain ⟨hl, h⟩ := h
  refine ⟨hl, ?_⟩
  rcases h with h | ⟨g, cap, cur, e, hb, hg, r⟩
  · exact .inl h
  · exact .inr ⟨g, cap, cur, e, hb, (hs g (by rw [e]; rfl)).trans hg, r⟩
theorem map_kept {W W' : World} {b n : Nat} {M : DataW Unit} (h : W.ownsMap Try.prog 9 (plainElem Try.prog 3) b n M) (hs : W'.heap[b]? = W.heap[b]?) : W'.ownsMap Try.prog 9 (plainElem Try.prog 3) b n M := by
  obtain ⟨es, clock, hb, F, hn, hD⟩ := h
  exact ⟨es, clock, hs.trans hb, F, hn, hD⟩
theorem row_slice {W : World} {base n size : Nat} {t : TypeId} {v : Value} {xs : List Value} (h : W.ownsRow base t size v n xs) : ∃ a cap, v = .slice a n cap := by
  rcases h.2 with ⟨rfl, h0⟩ | ⟨g, cap, cur, e, _⟩
  · exact ⟨none, 0, by rw [h0]⟩
  · exact ⟨_, cap, e⟩

/-- The whole builder. -/
structure BI (W : World) (base b nb : Nat) (P SA : List UInt8) (cl : Nat → Nat) (m : Nat) (ss : List (List Int)) (sv : Value) (vals : List Value) : Prop where
  obj : BldAt W b nb P SA cl m sv
  own : W.ownsRow base 24 1 sv ss.length vals
  map : ∃ M, W.ownsMap Try.prog 9 (plainElem Try.prog 3) m ss.length M ∧ Knows M ss
  rows : ∀ i x, vals[i]? = some x → Ints W x (ss.getD i []) ∧ x.ownBlock ≠ some b ∧ x.ownBlock ≠ some m ∧ ∀ k, x.ownBlock = some k → sv.ownBlock ≠ some k ∧ k < W.heap.size
  one : ∀ x, x ∈ vals → x.oneCell' = true
  bm : b ≠ m
  sb : sv.ownBlock ≠ some b
  sm : sv.ownBlock ≠ some m
  hb : base ≤ b
  hm : base ≤ m
  small : ∀ l, l ∈ ss → Small l
theorem BI.later {W W' : World} {base b nb : Nat} {P SA : List UInt8} {cl : Nat → Nat} {m : Nat} {ss : List (List Int)} {sv : Value} {vals : List Value} (h : BI W base b nb P SA cl m ss sv vals) (hb : Below W.heap.size W W') : BI W' base b nb P SA cl m ss sv vals := by
  obtain ⟨M, hM, hK⟩ := h.map
  refine ⟨h.obj.same (hb.block b h.obj.lt), row_kept h.own (fun k hk => hb.block k (h.own.lt k hk).2), ⟨M, map_kept hM (hb.block m hM.lt), hK⟩, fun i x hx => ?_, h.one, h.bm, h.sb, h.sm, h.hb, h.hm, h.small⟩
  obtain ⟨h1, h2, h3, h4⟩ := h.rows i x hx
  exact ⟨h1.below hb, h2, h3, fun k hk => ⟨(h4 k hk).1, by have := (h4 k hk).2; have := hb.size; omega⟩⟩
end Go.Proofs.Ytchobpfdmkgnoaa
