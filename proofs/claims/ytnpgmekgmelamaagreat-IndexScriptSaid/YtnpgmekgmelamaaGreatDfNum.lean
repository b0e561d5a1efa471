/-
  What is proved: what dfa.key returns on a list of positions below 256: the string of their bytes. What lay in memory before stands as it stood.
  What is proved: the builder of a table in memory, what its map knows; and what (*builder).number does: it finds a list's number, or gives it the next one. Of what lay in memory before, only the builder's own blocks are changed.
  What is proved: what (*builder).number does.
-/
import Derived.Test.YtnpgmekgmelamaaGreatNfTake
import Derived.Test.YtnpgmekgmelamaaGreatDfMath
import Derived.Maps.OwnSet
namespace Go.Proofs.YtnpgmekgmelamaaGreat
open Go.RowKit Go.Shelf

/-- Positions as bytes. -/
def keyL (zs : List Int) : List UInt8 := zs.map fun x => UInt8.ofNat x.toNat
def Small (zs : List Int) : Prop := ∀ x, x ∈ zs → 0 ≤ x ∧ x < 256
theorem Small.at {zs : List Int} (h : Small zs) {k : Nat} (hk : k < zs.length) : ∃ c : UInt8, zs.getD k 0 = (c.toNat : Int) ∧ UInt8.ofNat (zs.getD k 0).toNat = c := by
  have hx : zs.getD k 0 ∈ zs := by simp [List.getD, hk]
  obtain ⟨h0, h1⟩ := h _ hx
  refine ⟨UInt8.ofNat (zs.getD k 0).toNat, ?_, rfl⟩
  rw [UInt8.toNat_ofNat']
  omega
theorem keyL_inj : ∀ {a b : List Int}, Small a → Small b → keyL a = keyL b → a = b
  | [], [], _, _, _ => rfl
  | [], _ :: _, _, _, h => by simp [keyL] at h
  | _ :: _, [], _, _, h => by simp [keyL] at h
  | x :: a, y :: b, ha, hb, h => by
    simp only [keyL, List.map_cons, List.cons.injEq] at h
    have hx := ha x (by simp)
    have hy := hb y (by simp)
    have e : x = y := by
      have := congrArg UInt8.toNat h.1
      rw [UInt8.toNat_ofNat', UInt8.toNat_ofNat'] at this
      omega
    rw [e, keyL_inj (fun z hz => ha z (by simp [hz])) (fun z hz => hb z (by simp [hz])) h.2]
theorem keyL_snoc (zs : List Int) {k : Nat} {c : UInt8} (hk : k < zs.length) (hc : UInt8.ofNat (zs.getD k 0).toNat = c) : keyL (zs.take (k + 1)) = keyL (zs.take k) ++ [c] := by
  unfold keyL
  rw [take_int zs k hk, List.map_append, List.map_cons, List.map_nil, hc]
theorem small_ints {n : Nat} {g : Nat → Bool} (h : n ≤ 256) : Small (intsF n g) := by
  intro x hx
  obtain ⟨i, rfl, hi, _⟩ := mem_intsF.1 hx
  omega

theorem byte_wrap (c : UInt8) : IntKind.u8.wrap (c.toNat : Int) = (c.toNat : Int) := by
  have := c.toNat_lt
  unfold IntKind.wrap
  simp [IntKind.bits, IntKind.signed]
  omega

set_option maxHeartbeats 2000000 in
theorem key_any {w : World} {v : Value} {zs : List Int} (hv : Ints w v zs) (hz : zs.length ≤ 1000) (hs : Small zs) :
    Calls Tryz.prog 111 #[v] w fun e w' => e = .returned (.string (str (keyL zs))) ∧ Below w.heap.size w w' := by
  obtain ⟨a, cap, rfl, hcell⟩ := hv.reads
  clear hv
  obtain ⟨n, hn⟩ : ∃ n, zs.length = n := ⟨_, rfl⟩
  rw [hn] at hz hcell
  rw [hn]
  have HN := Lib.hid hn
  have HS := Lib.hid hs
  clear hn hs
  have HF : Hid (Lib.IsBuilderF 141 5 w.heap.size w.heap.size (Lib.byteCells []) (w.alloc (.cells #[.pointer none, .slice none 0 0] 141))) := Lib.hid (Lib.IsBuilderF.of (Lib.fresh_isBuilder _ _ w))
  have HB0 : Hid (Below w.heap.size w (w.alloc (.cells #[.pointer none, .slice none 0 0] 141))) := Lib.hid ((Below.refl _ w).alloc (Nat.le_refl _) _)
  have hbw := byte_wrap
  go_enter Tryz.func111, Tryz.ntmps111
  go_wp2
  go_loopg [5, 8] n (fun gk s5 s8 wr => ∃ k : Nat, k + gk = n ∧ s8 = .int .i64 k ∧ Hid (Lib.IsBuilderF 141 5 w.heap.size w.heap.size (Lib.byteCells (keyL (zs.take k))) wr) ∧ Hid (Below w.heap.size w wr))
  case atStart => exact ⟨0, by omega, rfl, HF, HB0⟩
  case round =>
    obtain ⟨k, hkg, rfl, HU, HB⟩ := hrel
    clear HF HB0
    cases gk with
    | zero =>
      have hkz : ¬ ((k : Int) < (n : Int)) := by omega
      have HE : Hid (keyL (zs.take k) = keyL zs) := Lib.hid (by rw [List.take_of_length_le (by have := HN.out; omega)])
      have C := Lib.hid (Tryz.Builder_String_any_k w.heap.size w.heap.size (keyL (zs.take k)) wr HU.out HB.out.size)
      go_wp2_with fail
      refine C.out.mono ?_
      rintro e w2 ⟨rfl, _, b2, _⟩
      go_wp2
      go_ret
      exact ⟨by rw [← HE.out]; rfl, HB.out.trans b2⟩
    | succ g' =>
      have hkz : (k : Int) < (n : Int) := by omega
      have hkn : k < n := by omega
      obtain ⟨b', off, rfl, hc⟩ := hcell.out wr HB.out k hkn
      obtain ⟨c, e1, e2⟩ := HS.out.at (k := k) (by have := HN.out; omega)
      have HK := Lib.hid (keyL_snoc zs (by have := HN.out; omega) e2)
      rw [e1] at hc
      clear e1 e2 hcell
      have C1 := Lib.hid (wb w.heap.size (keyL (zs.take k)) c wr HU.out (by simp [keyL]; omega) HB.out.size)
      go_wp2_with fail
      refine C1.out.mono ?_
      rintro e w2 ⟨rfl, u2, b2⟩
      go_wp2
      go_roundg g'
      case measure => omega
      case rel => exact ⟨k + 1, by omega, iv (by omega), Lib.hid (by rw [HK.out]; exact u2), Lib.hid (HB.out.trans b2)⟩
end Go.Proofs.YtnpgmekgmelamaaGreat

namespace Go.Proofs.YtnpgmekgmelamaaGreat
open Go.RowKit Go.Shelf Go.Maps

/-! The builder's block -/
structure BldC (c : Array Value) (nb : Nat) (P SA : List UInt8) (cl : Nat → Nat) (m : Nat) (sv : Value) : Prop where
  size : c.size = 261
  c0 : c[0]? = some (.pointer (some ⟨nb, 0, none⟩))
  c1 : c[1]? = some (.string (str P))
  c2 : c[2]? = some (.string (str SA))
  cls : ∀ i, i < 256 → c[3 + i]? = some (.int .i64 (cl i : Int))
  c4 : c[259]? = some (.map (some m))
  c5 : c[260]? = some sv
def BldAt (W : World) (b nb : Nat) (P SA : List UInt8) (cl : Nat → Nat) (m : Nat) (sv : Value) : Prop :=
  ∃ c, W.heap[b]? = some (.cells c 130 (0, 0)) ∧ BldC c nb P SA cl m sv
theorem BldAt.lt {W : World} {b nb : Nat} {P SA : List UInt8} {cl : Nat → Nat} {m : Nat} {sv : Value} (h : BldAt W b nb P SA cl m sv) : b < W.heap.size := by
  obtain ⟨c, hc, _⟩ := h; exact (Array.getElem?_eq_some_iff.1 hc).1
theorem BldAt.same {W W' : World} {b nb : Nat} {P SA : List UInt8} {cl : Nat → Nat} {m : Nat} {sv : Value} (h : BldAt W b nb P SA cl m sv) (e : W'.heap[b]? = W.heap[b]?) : BldAt W' b nb P SA cl m sv := by
  obtain ⟨c, hc, h⟩ := h; exact ⟨c, e.trans hc, h⟩
theorem cell_heap {W : World} {b : Nat} {c : Array Value} {t : TypeId} {fr : Nat × Nat} (h : W.heap[b]? = some (.cells c t fr)) (i : Nat) : W.cell? ⟨b, i, none⟩ = c[i]? := by simp [World.cell?, h]
theorem frozen_heap {W : World} {b : Nat} {c : Array Value} {t : TypeId} (h : W.heap[b]? = some (.cells c t (0, 0))) (i : Nat) : W.frozen? ⟨b, i, none⟩ = false := by simp [World.frozen?, h]
section
variable {W : World} {b nb : Nat} {P SA : List UInt8} {cl : Nat → Nat} {m : Nat} {sv : Value}
theorem BldAt.c0 (h : BldAt W b nb P SA cl m sv) : W.cell? ⟨b, 0, none⟩ = some (.pointer (some ⟨nb, 0, none⟩)) := by obtain ⟨c, hc, h⟩ := h; rw [cell_heap hc]; exact h.c0
theorem BldAt.c1 (h : BldAt W b nb P SA cl m sv) : W.cell? ⟨b, 1, none⟩ = some (.string (str P)) := by obtain ⟨c, hc, h⟩ := h; rw [cell_heap hc]; exact h.c1
theorem BldAt.c2 (h : BldAt W b nb P SA cl m sv) : W.cell? ⟨b, 2, none⟩ = some (.string (str SA)) := by obtain ⟨c, hc, h⟩ := h; rw [cell_heap hc]; exact h.c2
theorem BldAt.cls (h : BldAt W b nb P SA cl m sv) {i : Nat} (hi : i < 256) : W.cell? ⟨b, 3 + i, none⟩ = some (.int .i64 (cl i : Int)) := by obtain ⟨c, hc, h⟩ := h; rw [cell_heap hc]; exact h.cls i hi
theorem BldAt.c4 (h : BldAt W b nb P SA cl m sv) : W.cell? ⟨b, 259, none⟩ = some (.map (some m)) := by obtain ⟨c, hc, h⟩ := h; rw [cell_heap hc]; exact h.c4
theorem BldAt.c5 (h : BldAt W b nb P SA cl m sv) : W.cell? ⟨b, 260, none⟩ = some sv := by obtain ⟨c, hc, h⟩ := h; rw [cell_heap hc]; exact h.c5
theorem BldAt.fz (h : BldAt W b nb P SA cl m sv) (i : Nat) : W.frozen? ⟨b, i, none⟩ = false := by obtain ⟨c, hc, _⟩ := h; exact frozen_heap hc i
theorem BldAt.put (h : BldAt W b nb P SA cl m sv) (sv' : Value) : BldAt (W.setCell ⟨b, 260, none⟩ sv') b nb P SA cl m sv' := by
  obtain ⟨c, hc, h⟩ := h
  refine ⟨_, obj_set sv' hc, ⟨by simpa using h.size, ?_, ?_, ?_, ?_, ?_, ?_⟩⟩
  · rw [Array.getElem?_setIfInBounds_ne (by decide)]; exact h.c0
  · rw [Array.getElem?_setIfInBounds_ne (by decide)]; exact h.c1
  · rw [Array.getElem?_setIfInBounds_ne (by decide)]; exact h.c2
  · intro i hi; rw [Array.getElem?_setIfInBounds_ne (by omega)]; exact h.cls i hi
  · rw [Array.getElem?_setIfInBounds_ne (by decide)]; exact h.c4
  · rw [Array.getElem?_setIfInBounds_self]; rw [if_pos (by rw [h.size]; decide)]
theorem BldAt.putCls (h : BldAt W b nb P SA cl m sv) {i k : Nat} (hi : i < 256) : BldAt (W.setCell ⟨b, 3 + i, none⟩ (.int .i64 (k : Int))) b nb P SA (fun j => if j = i then k else cl j) m sv := by
  obtain ⟨c, hc, h⟩ := h
  refine ⟨_, obj_set _ hc, ⟨by simpa using h.size, ?_, ?_, ?_, ?_, ?_, ?_⟩⟩
  · rw [Array.getElem?_setIfInBounds_ne (by omega)]; exact h.c0
  · rw [Array.getElem?_setIfInBounds_ne (by omega)]; exact h.c1
  · rw [Array.getElem?_setIfInBounds_ne (by omega)]; exact h.c2
  · intro j hj
    by_cases e : j = i
    · subst e; rw [Array.getElem?_setIfInBounds_self, if_pos (by rw [h.size]; omega), if_pos rfl]
    · rw [Array.getElem?_setIfInBounds_ne (by omega), if_neg e]; exact h.cls j hj
  · rw [Array.getElem?_setIfInBounds_ne (by omega)]; exact h.c4
  · rw [Array.getElem?_setIfInBounds_ne (by omega)]; exact h.c5
end

/-! What the map knows -/
def keyK (l : List Int) : Lit := .string (keyL l)
theorem keyK_lit (l : List Int) : WideAt.IsKeyLit (keyK l) := trivial
theorem keyK_inj {a b : List Int} (ha : Small a) (hb : Small b) (h : keyK a = keyK b) : a = b := by
  unfold keyK at h
  injection h with h
  exact keyL_inj ha hb h
structure Knows (M : DataW Unit) (ss : List (List Int)) : Prop where
  isMap : Maps.IsMap M
  has : ∀ l, Small l → Maps.has M (keyK l) = decide (l ∈ ss)
  at' : ∀ l, Small l → l ∈ ss → ∀ z, M.atKey (keyK l) z = .lit (.int .i64 (ss.idxOf l : Int))
theorem Knows.none : Knows (.map []) [] := ⟨isMap_empty, fun l _ => by simp [Maps.has], fun l _ h => by simp at h⟩
theorem Knows.more {M : DataW Unit} {ss : List (List Int)} {l : List Int} (h : Knows M ss) (hl : Small l) (hn : l ∉ ss) : Knows (M.put (keyK l) (.lit (.int .i64 (ss.length : Int)))) (ss ++ [l]) := by
  refine ⟨h.isMap.put _ _, fun x hx => ?_, fun x hx hm z => ?_⟩
  · by_cases e : x = l
    · subst e; rw [has_put_same h.isMap (keyK_lit _)]; simp
    · rw [has_put_other (fun e2 => e (keyK_inj hx hl e2)), h.has x hx]
      simp [e]
  · by_cases e : x = l
    · subst e; rw [atKey_put_same h.isMap (keyK_lit _), idx_new hn]
    · have hm' : x ∈ ss := by simpa [e] using hm
      rw [atKey_put_other (fun e2 => e (keyK_inj hx hl e2)), h.at' x hx hm', idx_pre (List.prefix_append _ _) hm']

theorem string_law : Keyed Tryz.prog 9 := string_keyed Tryz.underlying9
theorem zero_int (w : World) : (zeroValue 3).run Tryz.prog w = .ok (.int .i64 0) w := by kernel_rfl

/-- Only the builder's blocks are changed. -/
structure Off (b m : Nat) (sv : Value) (W W' : World) : Prop where
  os : W'.os = W.os
  tape : W'.tape = W.tape
  output : W'.output = W.output
  size : W.heap.size ≤ W'.heap.size
  block : ∀ k, k < W.heap.size → k ≠ b → k ≠ m → sv.ownBlock ≠ some k → W'.heap[k]? = W.heap[k]?
def NewS (sv sv' : Value) (W : World) : Prop := ∀ k, sv'.ownBlock = some k → sv.ownBlock = some k ∨ W.heap.size ≤ k
theorem Off.refl (b m : Nat) (sv : Value) (W : World) : Off b m sv W W := ⟨rfl, rfl, rfl, Nat.le_refl _, fun _ _ _ _ _ => rfl⟩
theorem NewS.refl (sv : Value) (W : World) : NewS sv sv W := fun _ h => .inl h
theorem Off.trans {b m : Nat} {sv sv1 : Value} {W W1 W2 : World} (h : Off b m sv W W1) (hn : NewS sv sv1 W) (h' : Off b m sv1 W1 W2) : Off b m sv W W2 :=
  ⟨h'.os.trans h.os, h'.tape.trans h.tape, h'.output.trans h.output, Nat.le_trans h.size h'.size, fun k hk h1 h2 h3 =>
    (h'.block k (by have := h.size; omega) h1 h2 (fun e => by
      rcases hn k e with e | e
      · exact h3 e
      · omega)).trans (h.block k hk h1 h2 h3)⟩
theorem NewS.trans {sv sv1 sv2 : Value} {W W1 : World} (h : NewS sv sv1 W) (hs : W.heap.size ≤ W1.heap.size) (h' : NewS sv1 sv2 W1) : NewS sv sv2 W := fun k hk => by
  rcases h' k hk with e | e
  · exact h k e
  · exact .inr (by omega)
theorem Off.of_below {b m : Nat} {sv : Value} {W W' : World} (h : Below W.heap.size W W') : Off b m sv W W' := ⟨h.os, h.tape, h.output, h.size, fun k hk _ _ _ => h.block k hk⟩
theorem Off.below {b m : Nat} {sv : Value} {W W' : World} (h : Off b m sv W W') {B : Nat} (hB : B ≤ W.heap.size) (hb : B ≤ b) (hm : B ≤ m) (hs : ∀ k, sv.ownBlock = some k → B ≤ k) : Below B W W' :=
  ⟨h.os, h.tape, h.output, h.size, fun k hk => h.block k (by omega) (by omega) (by omega) (fun e => by have := hs k e; omega)⟩
theorem Off.drew {b m : Nat} {sv : Value} {W W' : World} (h : Off b m sv W W') : Off b m sv W W'.drew := ⟨h.os, h.tape, h.output, h.size, h.block⟩

/-! Lists and what lies around them -/
theorem Ints.kept {W W' : World} {v : Value} {zs : List Int} (h : Ints W v zs) (hs : ∀ k, v.ownBlock = some k → k < W.heap.size → W'.heap[k]? = W.heap[k]?) (hz : W.heap.size ≤ W'.heap.size) : Ints W' v zs := by
  rcases h with h | h | ⟨b, off, cap, e, hlt, hc⟩
  · exact .inl h
  · exact .inr (.inl h)
  · refine .inr (.inr ⟨b, off, cap, e, by omega, fun j hj => ?_⟩)
    have := hs b (by rw [e]; rfl) hlt
    rw [World.cell?_of_block (w := W) this]; exact hc j hj
theorem row_kept {W W' : World} {base n size : Nat} {t : TypeId} {v : Value} {xs : List Value} (h : W.ownsRow base t size v n xs) (hs : ∀ k, v.ownBlock = some k → W'.heap[k]? = W.heap[k]?) : W'.ownsRow base t size v n xs := by
  obtain ⟨hl, h⟩ := h
  refine ⟨hl, ?_⟩
  rcases h with h | ⟨g, cap, cur, e, hb, hg, r⟩
  · exact .inl h
  · exact .inr ⟨g, cap, cur, e, hb, (hs g (by rw [e]; rfl)).trans hg, r⟩
theorem map_kept {W W' : World} {b n : Nat} {M : DataW Unit} (h : W.ownsMap Tryz.prog 9 (plainElem Tryz.prog 3) b n M) (hs : W'.heap[b]? = W.heap[b]?) : W'.ownsMap Tryz.prog 9 (plainElem Tryz.prog 3) b n M := by
  obtain ⟨es, clock, hb, F, hn, hD⟩ := h
  exact ⟨es, clock, hs.trans hb, F, hn, hD⟩
theorem row_slice {W : World} {base n size : Nat} {t : TypeId} {v : Value} {xs : List Value} (h : W.ownsRow base t size v n xs) : ∃ a cap, v = .slice a n cap := by
  rcases h.2 with ⟨rfl, h0⟩ | ⟨g, cap, cur, e, _⟩
  · exact ⟨none, 0, by rw [h0]⟩
  · exact ⟨_, cap, e⟩

/-- The whole builder. -/
structure BI (W : World) (base b nb : Nat) (P SA : List UInt8) (cl : Nat → Nat) (m : Nat) (ss : List (List Int)) (sv : Value) (vals : List Value) : Prop where
  obj : BldAt W b nb P SA cl m sv
  own : W.ownsRow base 22 1 sv ss.length vals
  map : ∃ M, W.ownsMap Tryz.prog 9 (plainElem Tryz.prog 3) m ss.length M ∧ Knows M ss
  rows : ∀ i x, vals[i]? = some x → Ints W x (ss.getD i []) ∧ x.ownBlock ≠ some b ∧ x.ownBlock ≠ some m ∧ ∀ k, x.ownBlock = some k → sv.ownBlock ≠ some k ∧ k < W.heap.size
  one : ∀ x, x ∈ vals → x.oneCell' = true
  bm : b ≠ m
  sb : sv.ownBlock ≠ some b
  sm : sv.ownBlock ≠ some m
  hb : base ≤ b
  hm : base ≤ m
  small : ∀ l, l ∈ ss → Small l
theorem BI.later {W W' : World} {base b nb : Nat} {P SA : List UInt8} {cl : Nat → Nat} {m : Nat} {ss : List (List Int)} {sv : Value} {vals : List Value} (h : BI W base b nb P SA cl m ss sv vals) (hb : Below W.heap.size W W') : BI W' base b nb P SA cl m ss sv vals := by
  obtain ⟨M, hM, hK⟩ := h.map
  refine ⟨h.obj.same (hb.block b h.obj.lt), row_kept h.own (fun k hk => hb.block k (h.own.lt k hk).2), ⟨M, map_kept hM (hb.block m hM.lt), hK⟩, fun i x hx => ?_, h.one, h.bm, h.sb, h.sm, h.hb, h.hm, h.small⟩
  obtain ⟨h1, h2, h3, h4⟩ := h.rows i x hx
  exact ⟨h1.below hb, h2, h3, fun k hk => ⟨(h4 k hk).1, by have := (h4 k hk).2; have := hb.size; omega⟩⟩
end Go.Proofs.YtnpgmekgmelamaaGreat

namespace Go.Proofs.YtnpgmekgmelamaaGreat
open Go.RowKit Go.Shelf Go.Maps

theorem key_of (l : List Int) (h : l.length ≤ 1000) : keyOf Tryz.prog 9 (.string (str (keyL l))) = some (keyK l) := by
  rw [WideMaps.keyOf_string_mk Tryz.underlying9 (by rw [str_size]; unfold maxLen keyL; rw [List.length_map]; omega), str_data]; rfl
theorem look_hit {ops : Array Oper} {rest : List Oper} {o : Oper} {a : Act} {Q : Exit → Act → World → Prop} {w : World} (hg : o.guard = none) (mo x : Operand) (hop : o.op = Op.lookup 128 mo x true) {m n : Nat} {M : DataW Unit} {ss : List (List Int)} {l : List Int}
    (hm : a.eval mo = .map (some m)) (hown : w.ownsMap Tryz.prog 9 (plainElem Tryz.prog 3) m n M) (hK : Knows M ss) (hs : Small l) (hlen : l.length ≤ 1000) (hl : l ∈ ss) (hx : a.eval x = .string (str (keyL l)))
    (h : wpList Tryz.prog ops Q rest (a.put o.dst (.tuple #[.int .i64 (ss.idxOf l : Int), .bool true])) w) : wpList Tryz.prog ops Q (o :: rest) a w := by
  refine wpList_lookup_own_ok_int w hg mo x _ hop 9 3 .i64 string_law Tryz.underlying128 Tryz.underlying3 (zero_int w) m n M hm hown _ (keyK l) hx (key_of l hlen) ?_
  intro c hat _
  rw [hK.at' l hs hl] at hat
  have hc : (ss.idxOf l : Int) = c := by injection hat with hat; injection hat
  rw [hK.has l hs, decide_eq_true hl, ← hc]
  exact h
theorem look_miss {ops : Array Oper} {rest : List Oper} {o : Oper} {a : Act} {Q : Exit → Act → World → Prop} {w : World} (hg : o.guard = none) (mo x : Operand) (hop : o.op = Op.lookup 128 mo x true) {m n : Nat} {M : DataW Unit} {ss : List (List Int)} {l : List Int}
    (hm : a.eval mo = .map (some m)) (hown : w.ownsMap Tryz.prog 9 (plainElem Tryz.prog 3) m n M) (hK : Knows M ss) (hs : Small l) (hlen : l.length ≤ 1000) (hl : l ∉ ss) (hx : a.eval x = .string (str (keyL l)))
    (h : ∀ c : Int, wpList Tryz.prog ops Q rest (a.put o.dst (.tuple #[.int .i64 c, .bool false])) w) : wpList Tryz.prog ops Q (o :: rest) a w := by
  refine wpList_lookup_own_ok_int w hg mo x _ hop 9 3 .i64 string_law Tryz.underlying128 Tryz.underlying3 (zero_int w) m n M hm hown _ (keyK l) hx (key_of l hlen) ?_
  intro c _ _
  rw [hK.has l hs, decide_eq_false hl]
  exact h c

theorem info_li : (Tryz.prog.info? 22).map (fun i => (i.zero, i.size, i.bytes)) = some (some (.slice none 0 0), 1, 24) := by kernel_rfl

section
variable {W : World} {base b nb : Nat} {P SA : List UInt8} {cl : Nat → Nat} {m : Nat} {ss : List (List Int)} {sv : Value} {vals : List Value}

set_option maxHeartbeats 2000000 in
theorem number_hit (hI : BI W base b nb P SA cl m ss sv vals) {lv : Value} {l : List Int} (hl : Ints W lv l) (hs : Small l) (hlen : l.length ≤ 1000) (hm : l ∈ ss) :
    Calls Tryz.prog 82 #[.pointer (some ⟨b, 0, none⟩), lv] W fun e w' => e = .returned (.int .i64 (ss.idxOf l : Int)) ∧ Below W.heap.size W w' := by
  have C := Lib.hid (key_any hl hlen hs)
  obtain ⟨M, hM, hK⟩ := hI.map
  have H1 : Hid (∀ w1, Below W.heap.size W w1 → w1.cell? ⟨b, 259, none⟩ = some (.map (some m)) ∧ w1.ownsMap Tryz.prog 9 (plainElem Tryz.prog 3) m ss.length M) := Lib.hid (fun w1 hb => ⟨(hI.later hb).obj.c4, map_kept hM (hb.block m hM.lt)⟩)
  have HK := Lib.hid hK
  have HM := Lib.hid hm
  have HS := Lib.hid hs
  obtain ⟨i, hi⟩ : ∃ i : Int, (ss.idxOf l : Int) = i := ⟨_, rfl⟩
  have HI := Lib.hid hi
  rw [hi]
  clear hi hM hK hm hs hI hl
  go_enter Tryz.func82, Tryz.ntmps82
  go_wp2_with fail
  refine C.out.mono ?_
  rintro e w1 ⟨rfl, hb1⟩
  obtain ⟨c4, hM1⟩ := H1.out w1 hb1
  go_wp2_with (at_lookup; refine look_hit rfl _ _ rfl rfl hM1 HK.out HS.out hlen HM.out rfl ?_; rw [HI.out])
  go_ret
  exact ⟨rfl, hb1⟩

/-- What stands in memory once the map knows l. -/
theorem bi_mid {w1 w2 : World} (hI : BI w1 base b nb P SA cl m ss sv vals) (hg : w1.grownBy w2 (some m)) (lv : Value) (hbase : base ≤ w1.heap.size) :
    BldAt w2 b nb P SA cl m sv ∧ (w2.alloc (.cells #[lv] 22)).ownsRow base 22 1 sv ss.length vals ∧ base ≤ (w2.alloc (.cells #[lv] 22)).heap.size := by
  refine ⟨hI.obj.same (hg.block b hI.obj.lt (fun e => hI.bm (by cases e; rfl))), World.ownsRow.alloc (row_kept hI.own (fun k hk => hg.block k (hI.own.lt k hk).2 (fun e => hI.sm (by rw [hk, e])))) _, ?_⟩
  have := hg.size
  simp; omega
theorem bi_last {w2 w3 : World} {lv v' : Value} (hO : BldAt w2 b nb P SA cl m sv) (hsb : sv.ownBlock ≠ some b) (hg : (w2.alloc (.cells #[lv] 22)).grownBy w3 sv.ownBlock) : BldAt w3 b nb P SA cl m sv ∧ BldAt (w3.setCell ⟨b, 260, none⟩ v') b nb P SA cl m v' := by
  have h1 : BldAt w3 b nb P SA cl m sv := hO.same ((hg.block b (by have := hO.lt; simp; omega) (fun e => hsb e.symm)).trans (Below.heap_alloc _ _ _ hO.lt))
  exact ⟨h1, h1.put v'⟩

theorem bi_more {w1 w2 w3 : World} {M : DataW Unit} {lv v' : Value} {l : List Int} (hI : BI w1 base b nb P SA cl m ss sv vals) (hK : Knows M ss) (hs : Small l) (hm : l ∉ ss) (hl : Ints w1 lv l) (hone : lv.oneCell' = true)
    (h1 : lv.ownBlock ≠ some b) (h2 : lv.ownBlock ≠ some m) (h3 : ∀ k, lv.ownBlock = some k → sv.ownBlock ≠ some k ∧ k < w1.heap.size) (hml : m < w1.heap.size)
    (hM2 : w2.ownsMap Tryz.prog 9 (plainElem Tryz.prog 3) m (ss.length + 1) (M.put (keyK l) (.lit (.int .i64 (ss.length : Int))))) (hg2 : w1.grownBy w2 (some m))
    (hown : w3.ownsRow base 22 1 v' (ss.length + 1) (vals ++ [lv])) (hg3 : (w2.alloc (.cells #[lv] 22)).grownBy w3 sv.ownBlock) (hat : v'.ownBlock = sv.ownBlock ∨ v'.ownBlock = some (w2.alloc (.cells #[lv] 22)).heap.size) :
    BI (w3.setCell ⟨b, 260, none⟩ v') base b nb P SA cl m (ss ++ [l]) v' (vals ++ [lv]) ∧ Off b m sv w1 (w3.setCell ⟨b, 260, none⟩ v') ∧ NewS sv v' w1 := by
  have hbl := hI.obj.lt
  have hz2 := hg2.size
  have hz3 := hg3.size
  have hza : (w2.alloc (.cells #[lv] 22)).heap.size = w2.heap.size + 1 := by simp
  have hzs : (w3.setCell ⟨b, 260, none⟩ v').heap.size = w3.heap.size := by simp [World.setCell]
  -- an old block that is neither the builder's, nor the map's, nor the list's stands
  have keep : ∀ k, k < w1.heap.size → k ≠ b → k ≠ m → sv.ownBlock ≠ some k → (w3.setCell ⟨b, 260, none⟩ v').heap[k]? = w1.heap[k]? := fun k hk e1 e2 e3 => by
    rw [Below.heap_setCell _ _ _ _ e1, hg3.block k (by omega) (fun e => e3 e.symm), Below.heap_alloc _ _ _ (by omega), hg2.block k hk (fun e => e2 (by cases e; rfl))]
  have hN : NewS sv v' w1 := fun k hk => by
    rcases hat with e | e
    · exact .inl (by rw [← e, hk])
    · right
      rw [hk] at e
      have : k = (w2.alloc (.cells #[lv] 22)).heap.size := by injection e
      omega
  have hO := (bi_mid hI hg2 lv (by have := hI.hb; omega)).1
  have hsm3 : w3.heap[m]? = w2.heap[m]? := (hg3.block m (by omega) (fun e => hI.sm e.symm)).trans (Below.heap_alloc _ _ _ (by omega))
  have hvb : v'.ownBlock ≠ some b := fun e => by rcases hN b e with e | e; exact hI.sb e; omega
  have hvm : v'.ownBlock ≠ some m := fun e => by rcases hN m e with e | e; exact hI.sm e; omega
  refine ⟨⟨(bi_last hO hI.sb hg3).2, row_kept (by simpa using hown) (fun k hk => Below.heap_setCell _ _ _ _ (fun e => hvb (by rw [hk, e]))), ⟨_, map_kept (by simpa using hM2) ((Below.heap_setCell _ _ _ _ (Ne.symm hI.bm)).trans hsm3), hK.more hs hm⟩, ?_, ?_, hI.bm, hvb, hvm, hI.hb, hI.hm, ?_⟩, ⟨hg3.os.trans hg2.os, hg3.tape.trans hg2.tape, hg3.output.trans hg2.output, by omega, keep⟩, hN⟩
  · intro i x hx
    have hvl : vals.length = ss.length := by have := hI.own.1; simpa using this
    have lift : ∀ (y : Value) (zs : List Int), Ints w1 y zs → y.ownBlock ≠ some b → y.ownBlock ≠ some m → (∀ k, y.ownBlock = some k → sv.ownBlock ≠ some k ∧ k < w1.heap.size) → Ints (w3.setCell ⟨b, 260, none⟩ v') y zs ∧ y.ownBlock ≠ some b ∧ y.ownBlock ≠ some m ∧ ∀ k, y.ownBlock = some k → v'.ownBlock ≠ some k ∧ k < (w3.setCell ⟨b, 260, none⟩ v').heap.size := by
      intro y zs g1 g2 g3 g4
      refine ⟨g1.kept (fun k hk hlt => keep k hlt (fun e => g2 (by rw [hk, e])) (fun e => g3 (by rw [hk, e])) (g4 k hk).1) (by omega), g2, g3, fun k hk => ⟨fun e => ?_, by have := (g4 k hk).2; omega⟩⟩
      rcases hN k e with e | e
      · exact (g4 k hk).1 e
      · have := (g4 k hk).2; omega
    by_cases hi : i < vals.length
    · rw [List.getElem?_append_left hi] at hx
      have e : (ss ++ [l]).getD i [] = ss.getD i [] := by
        rw [List.getD_eq_getElem?_getD, List.getD_eq_getElem?_getD, List.getElem?_append_left (by omega)]
      rw [e]
      obtain ⟨g1, g2, g3, g4⟩ := hI.rows i x hx
      exact lift x _ g1 g2 g3 g4
    · have hie : i = ss.length := by
        have := (List.getElem?_eq_some_iff.1 hx).1
        simp at this; omega
      subst hie
      have hxl : x = lv := by
        rw [List.getElem?_append_right (by omega), hvl, Nat.sub_self] at hx
        simpa using hx.symm
      subst hxl
      have e : (ss ++ [l]).getD ss.length [] = l := by simp [List.getD_eq_getElem?_getD]
      rw [e]
      exact lift x l hl h1 h2 h3
  · intro x hx
    rcases List.mem_append.1 hx with h | h
    · exact hI.one x h
    · have : x = lv := by simpa using h
      rw [this]; exact hone
  · intro x hx
    rcases List.mem_append.1 hx with h | h
    · exact hI.small x h
    · have : x = l := by simpa using h
      rw [this]; exact hs

set_option maxRecDepth 100000 in
set_option maxHeartbeats 4000000 in
theorem number_miss (hI : BI W base b nb P SA cl m ss sv vals) {lv : Value} {l : List Int} (hl : Ints W lv l) (hs : Small l) (hlen : l.length ≤ 1000) (hm : l ∉ ss) (hn : ss.length ≤ 100000) (hbase : base ≤ W.heap.size) (hone : lv.oneCell' = true)
    (h1 : lv.ownBlock ≠ some b) (h2 : lv.ownBlock ≠ some m) (h3 : ∀ k, lv.ownBlock = some k → sv.ownBlock ≠ some k ∧ k < W.heap.size) :
    Calls Tryz.prog 82 #[.pointer (some ⟨b, 0, none⟩), lv] W fun e w' => e = .returned (.int .i64 (ss.length : Int)) ∧ ∃ sv', BI w' base b nb P SA cl m (ss ++ [l]) sv' (vals ++ [lv]) ∧ Off b m sv W w' ∧ NewS sv sv' W := by
  have C := Lib.hid (key_any hl hlen hs)
  obtain ⟨M, hM, hK⟩ := hI.map
  obtain ⟨i0, hi, hz0, hz1, hz2⟩ := info_parts info_li
  obtain ⟨sa, sc, hsv⟩ := row_slice hI.own
  obtain ⟨n, hn'⟩ : ∃ n, ss.length = n := ⟨_, rfl⟩
  have hwf : (Lit.int .i64 (n : Int)).wf = true := WalkArith.wf_i64 (by omega)
  have H1 : Hid (∀ w1, Below W.heap.size W w1 → BI w1 base b nb P SA cl m ss sv vals ∧ w1.ownsMap Tryz.prog 9 (plainElem Tryz.prog 3) m n M ∧ base ≤ w1.heap.size) := Lib.hid (fun w1 hb => ⟨hI.later hb, hn' ▸ map_kept hM (hb.block m hM.lt), by have := hb.size; omega⟩)
  have H2 : Hid (∀ w1 w2 w3 v', Below W.heap.size W w1 → w2.ownsMap Tryz.prog 9 (plainElem Tryz.prog 3) m (n + 1) (M.put (keyK l) (.lit (.int .i64 (n : Int)))) → w1.grownBy w2 (some m) → w3.ownsRow base 22 1 v' (n + 1) (vals ++ [lv]) → (w2.alloc (.cells #[lv] 22)).grownBy w3 sv.ownBlock →
      (v'.ownBlock = sv.ownBlock ∨ v'.ownBlock = some (w2.alloc (.cells #[lv] 22)).heap.size) → BI (w3.setCell ⟨b, 260, none⟩ v') base b nb P SA cl m (ss ++ [l]) v' (vals ++ [lv]) ∧ Off b m sv W (w3.setCell ⟨b, 260, none⟩ v') ∧ NewS sv v' W) := Lib.hid (fun w1 w2 w3 v' hb hM2 hg2 hown hg3 hat => by
    subst hn'
    have := bi_more (hI.later hb) hK hs hm (hl.below hb) hone h1 h2 (fun k hk => ⟨(h3 k hk).1, by have := (h3 k hk).2; have := hb.size; omega⟩) (by have := hM.lt; have := hb.size; omega) hM2 hg2 hown hg3 hat
    exact ⟨this.1, (Off.of_below hb).trans (NewS.refl _ _) this.2.1, (NewS.refl sv W).trans hb.size this.2.2⟩)
  have H3 : Hid (∀ w1 w2, Below W.heap.size W w1 → w1.grownBy w2 (some m) → w2.cell? ⟨b, 260, none⟩ = some sv ∧ (w2.alloc (.cells #[lv] 22)).ownsRow base 22 1 sv n vals ∧ base ≤ (w2.alloc (.cells #[lv] 22)).heap.size) := Lib.hid (fun w1 w2 hb hg => by
    have := bi_mid (hI.later hb) hg lv (by have := hb.size; omega)
    rw [hn'] at this
    exact ⟨this.1.c5, this.2⟩)
  have H4 : Hid (∀ w1 w2 w3, Below W.heap.size W w1 → w1.grownBy w2 (some m) → (w2.alloc (.cells #[lv] 22)).grownBy w3 sv.ownBlock → w3.cell? ⟨b, 260, none⟩ = some sv ∧ w3.frozen? ⟨b, 260, none⟩ = false) := Lib.hid (fun w1 w2 w3 hb hg hg3 => by
    have hI1 := hI.later hb
    have hO := (bi_mid hI1 hg lv (by have := hb.size; omega)).1
    have := (bi_last (v' := sv) hO hI1.sb hg3).1
    exact ⟨this.c5, this.fz 260⟩)
  have HK := Lib.hid hK
  have HM := Lib.hid hm
  have HS := Lib.hid hs
  rw [hn'] at hn hsv
  rw [hn']
  obtain ⟨la, lc, hlv, _⟩ := hl.reads
  obtain ⟨ln, hln⟩ : ∃ ln, l.length = ln := ⟨_, rfl⟩
  rw [hln] at hlv
  have HLN := Lib.hid hlen
  clear hM hK hm hs hI hl h3 h1 h2 hn' hbase hlen hln
  subst hsv
  subst hlv
  go_enter Tryz.func82, Tryz.ntmps82
  go_wp2_with fail
  refine C.out.mono ?_
  rintro e w1 ⟨rfl, hb1⟩
  obtain ⟨hI1, hM1, hbase1⟩ := H1.out w1 hb1
  have c4 := hI1.obj.c4
  have c5 := hI1.obj.c5
  clear hI1
  go_wp2_with (first
    | (at_lookup; refine look_miss rfl _ _ rfl rfl hM1 HK.out HS.out HLN.out HM.out rfl ?_; intro c)
    | (at_mapUpdate; refine wpList_mapUpdate_own _ rfl _ _ _ 128 rfl 9 3 string_law Tryz.underlying128 _ m n M rfl hM1 (by unfold maxLen; omega) _ _ _ rfl rfl (key_of l HLN.out) _ [] (plainElem_int Tryz.underlying3 hwf) ?_; intro w2 hM2 hg2; obtain ⟨c52, hr2, hz2'⟩ := H3.out w1 w2 hb1 hg2)
    | (at_builtin; (refine wpList_append_own_at _ rfl _ _ 23 rfl base 22 i0 (.slice none 0 0) 1 24 Tryz.underlying23 hi hz0 hz1 hz2 rfl (by decide) _ n vals rfl hr2 ⟨w2.heap.size, 0, none⟩ 1 1 [.slice la ln lc] rfl rfl (cell_one_new _ _ _) (by intro u hu; simp at hu; rw [hu]; rfl) (by unfold maxLen; omega) (by omega) hz2' ?_; intro v' w3 hown3 hg3 _ hat; obtain ⟨c53, f53⟩ := H4.out w1 w2 w3 hb1 hg2 hg3; obtain ⟨va, vc, rfl⟩ := row_slice hown3)))
  have hfin := Lib.hid (H2.out w1 w2 w3 _ hb1 hM2 hg2 hown3 hg3 hat)
  clear H1 H2 H3 H4 HK HM HS hM1 hM2 hg2 hg3 hown3 hr2 hb1 C
  go_ret
  exact ⟨rfl, _, hfin.out⟩

theorem number_any (hI : BI W base b nb P SA cl m ss sv vals) {lv : Value} {l : List Int} (hl : Ints W lv l) (hs : Small l) (hlen : l.length ≤ 1000) (hn : ss.length ≤ 100000) (hbase : base ≤ W.heap.size) (hone : lv.oneCell' = true)
    (h1 : lv.ownBlock ≠ some b) (h2 : lv.ownBlock ≠ some m) (h3 : ∀ k, lv.ownBlock = some k → sv.ownBlock ≠ some k ∧ k < W.heap.size) :
    Calls Tryz.prog 82 #[.pointer (some ⟨b, 0, none⟩), lv] W fun e w' => e = .returned (.int .i64 ((addL ss l).idxOf l : Int)) ∧ ∃ sv' vals', BI w' base b nb P SA cl m (addL ss l) sv' vals' ∧ Off b m sv W w' ∧ NewS sv sv' W ∧ ∀ x, x ∈ vals' → x ∈ vals ∨ x = lv := by
  by_cases hm : l ∈ ss
  · refine (number_hit hI hl hs hlen hm).mono ?_
    rintro e w' ⟨rfl, hb⟩
    have e : addL ss l = ss := by unfold addL; rw [if_pos hm]
    rw [e]
    exact ⟨rfl, sv, vals, hI.later hb, Off.of_below hb, NewS.refl _ _, fun x hx => .inl hx⟩
  · refine (number_miss hI hl hs hlen hm hn hbase hone h1 h2 h3).mono ?_
    rintro e w' ⟨rfl, sv', hI', ho, hN⟩
    have e : addL ss l = ss ++ [l] := by unfold addL; rw [if_neg hm]
    rw [e, idx_new hm]
    exact ⟨rfl, sv', _, hI', ho, hN, fun x hx => by simpa using hx⟩
end
end Go.Proofs.YtnpgmekgmelamaaGreat
