/-
  What is proved: the table of a glob in memory while it is made: rows, what accepts, and the builder beside it; what an append to each leaves as it was.
-/
import Derived.Test.YtnpgmekgmelamaaGreatDfNew
namespace Go.Proofs.YtnpgmekgmelamaaGreat
open Go.RowKit Go.Shelf Go.Maps

/-! The table's block -/
structure TabC (c : Array Value) (cl : Nat → Nat) (nv av : Value) : Prop where
  size : c.size = 258
  cls : ∀ i, i < 256 → c[i]? = some (.int .i64 (cl i : Int))
  c1 : c[256]? = some nv
  c2 : c[257]? = some av
def TabAt (W : World) (tb : Nat) (cl : Nat → Nat) (nv av : Value) : Prop := ∃ c, W.heap[tb]? = some (.cells c 81 (0, 0)) ∧ TabC c cl nv av
section
variable {W : World} {tb : Nat} {cl : Nat → Nat} {nv av : Value}
theorem TabAt.lt (h : TabAt W tb cl nv av) : tb < W.heap.size := by obtain ⟨c, hc, _⟩ := h; exact (Array.getElem?_eq_some_iff.1 hc).1
theorem TabAt.same {W' : World} (h : TabAt W tb cl nv av) (e : W'.heap[tb]? = W.heap[tb]?) : TabAt W' tb cl nv av := by obtain ⟨c, hc, h⟩ := h; exact ⟨c, e.trans hc, h⟩
theorem TabAt.cls (h : TabAt W tb cl nv av) {i : Nat} (hi : i < 256) : W.cell? ⟨tb, i, none⟩ = some (.int .i64 (cl i : Int)) := by obtain ⟨c, hc, h⟩ := h; rw [cell_heap hc]; exact h.cls i hi
theorem TabAt.c1 (h : TabAt W tb cl nv av) : W.cell? ⟨tb, 256, none⟩ = some nv := by obtain ⟨c, hc, h⟩ := h; rw [cell_heap hc]; exact h.c1
theorem TabAt.c2 (h : TabAt W tb cl nv av) : W.cell? ⟨tb, 257, none⟩ = some av := by obtain ⟨c, hc, h⟩ := h; rw [cell_heap hc]; exact h.c2
theorem TabAt.fz (h : TabAt W tb cl nv av) (i : Nat) : W.frozen? ⟨tb, i, none⟩ = false := by obtain ⟨c, hc, _⟩ := h; exact frozen_heap hc i
theorem TabAt.putN (h : TabAt W tb cl nv av) (nv' : Value) : TabAt (W.setCell ⟨tb, 256, none⟩ nv') tb cl nv' av := by
  obtain ⟨c, hc, h⟩ := h
  refine ⟨_, obj_set nv' hc, ⟨by simpa using h.size, fun i hi => ?_, ?_, ?_⟩⟩
  · rw [Array.getElem?_setIfInBounds_ne (by omega)]; exact h.cls i hi
  · rw [Array.getElem?_setIfInBounds_self, if_pos (by rw [h.size]; decide)]
  · rw [Array.getElem?_setIfInBounds_ne (by decide)]; exact h.c2
theorem TabAt.putA (h : TabAt W tb cl nv av) (av' : Value) : TabAt (W.setCell ⟨tb, 257, none⟩ av') tb cl nv av' := by
  obtain ⟨c, hc, h⟩ := h
  refine ⟨_, obj_set av' hc, ⟨by simpa using h.size, fun i hi => ?_, ?_, ?_⟩⟩
  · rw [Array.getElem?_setIfInBounds_ne (by omega)]; exact h.cls i hi
  · rw [Array.getElem?_setIfInBounds_ne (by decide)]; exact h.c1
  · rw [Array.getElem?_setIfInBounds_self, if_pos (by rw [h.size]; decide)]
end

/-! The builder stays where its own blocks stay -/
theorem BI.keep {W W' : World} {base b nb : Nat} {P SA : List UInt8} {cl : Nat → Nat} {m : Nat} {ss : List (List Int)} {sv : Value} {vals : List Value} (h : BI W base b nb P SA cl m ss sv vals) (hz : W.heap.size ≤ W'.heap.size)
    (hk : ∀ k, k < W.heap.size → (k = b ∨ k = m ∨ sv.ownBlock = some k ∨ ∃ x, x ∈ vals ∧ x.ownBlock = some k) → W'.heap[k]? = W.heap[k]?) : BI W' base b nb P SA cl m ss sv vals := by
  obtain ⟨M, hM, hK⟩ := h.map
  refine ⟨h.obj.same (hk b h.obj.lt (.inl rfl)), row_kept h.own (fun k e => hk k (h.own.lt k e).2 (.inr (.inr (.inl e)))), ⟨M, map_kept hM (hk m hM.lt (.inr (.inl rfl))), hK⟩, fun j x hx => ?_, h.one, h.bm, h.sb, h.sm, h.hb, h.hm, h.small⟩
  obtain ⟨g1, g2, g3, g4⟩ := h.rows j x hx
  exact ⟨g1.kept (fun k e hlt => hk k hlt (.inr (.inr (.inr ⟨x, List.mem_iff_getElem?.2 ⟨j, hx⟩, e⟩)))) hz, g2, g3, fun k e => ⟨(g4 k e).1, by have := (g4 k e).2; omega⟩⟩

/-- Builder and table. col tells what each block is for: 1 the builder's own, 2 the table, 3 its rows' list, 4 what accepts, 5 the rows, 6 the builder's lists. -/
structure BT (W : World) (base b nb : Nat) (P SA : List UInt8) (cl : Nat → Nat) (m : Nat) (ss : List (List Int)) (sv : Value) (vals : List Value) (tb : Nat) (nv av : Value) (rows : List (List Int)) (accs : List Bool) (rvals : List Value) (col : Nat → Nat) : Prop where
  bi : BI W base b nb P SA cl m ss sv vals
  tab : TabAt W tb cl nv av
  nown : W.ownsRow base 22 1 nv rows.length rvals
  aown : W.ownsRow base 4 1 av accs.length (accs.map Value.bool)
  rws : ∀ j x, rvals[j]? = some x → Ints W x (rows.getD j []) ∧ ∀ k, x.ownBlock = some k → col k = 5 ∧ k < W.heap.size
  cb : col b = 1
  cm : col m = 1
  cs : ∀ k, sv.ownBlock = some k → col k = 1
  ct : col tb = 2
  cn : ∀ k, nv.ownBlock = some k → col k = 3
  ca : ∀ k, av.ownBlock = some k → col k = 4
  cv : ∀ x, x ∈ vals → ∀ k, x.ownBlock = some k → col k = 6
  tbb : base ≤ tb
  five : ∀ k, col k = 5 → base ≤ k

section
variable {W : World} {base b nb : Nat} {P SA : List UInt8} {cl : Nat → Nat} {m : Nat} {ss : List (List Int)} {sv : Value} {vals : List Value} {tb : Nat} {nv av : Value} {rows : List (List Int)} {accs : List Bool} {rvals : List Value} {col : Nat → Nat}

theorem BT.biKeep (h : BT W base b nb P SA cl m ss sv vals tb nv av rows accs rvals col) {W' : World} (hz : W.heap.size ≤ W'.heap.size) (hk : ∀ k, k < W.heap.size → (col k = 1 ∨ col k = 6) → W'.heap[k]? = W.heap[k]?) : BI W' base b nb P SA cl m ss sv vals :=
  h.bi.keep hz (fun k hlt hc => hk k hlt (by
    rcases hc with rfl | rfl | e | ⟨x, hx, e⟩
    · exact .inl h.cb
    · exact .inl h.cm
    · exact .inl (h.cs k e)
    · exact .inr (h.cv x hx k e)))
theorem BT.rwsKeep (h : BT W base b nb P SA cl m ss sv vals tb nv av rows accs rvals col) {W' : World} (hz : W.heap.size ≤ W'.heap.size) (hk : ∀ k, k < W.heap.size → col k = 5 → W'.heap[k]? = W.heap[k]?) :
    ∀ j x, rvals[j]? = some x → Ints W' x (rows.getD j []) ∧ ∀ k, x.ownBlock = some k → col k = 5 ∧ k < W'.heap.size := fun j x hx => by
  obtain ⟨h1, h2⟩ := h.rws j x hx
  exact ⟨h1.kept (fun k e hlt => hk k hlt (h2 k e).1) hz, fun k e => ⟨(h2 k e).1, by have := (h2 k e).2; omega⟩⟩

/-- A row of numbers is a list. -/
theorem nums_ints {r n : Nat} {g : Nat → Int} (h : NumsAt W r n g) (zs : List Int) (hl : zs.length = n) (he : ∀ j, j < n → zs.getD j 0 = g j) : Ints W (.slice (some ⟨r, 0, none⟩) n n) zs := by
  refine .inr (.inr ⟨r, 0, n, by rw [hl], World.rowIs.lt h, fun j hj => ?_⟩)
  rw [Nat.zero_add, he j (by omega)]
  exact World.rowIs.cell h (i := j) (by omega)
theorem row_ints {B : List UInt8} {r : Nat} {g : Nat → Int} {l : List Int} (h : NumsAt W r SA.length g) (hr : RowTo B SA ss l SA.length g) : Ints W (.slice (some ⟨r, 0, none⟩) SA.length SA.length) (rowL B SA ss l) := by
  refine nums_ints h _ (by simp [rowL]) (fun j hj => ?_)
  obtain ⟨h1, _⟩ := hr j SA[j] hj (List.getElem?_eq_getElem hj)
  unfold rowL
  rw [List.getD_eq_getElem?_getD, List.getElem?_map, List.getElem?_eq_getElem hj, h1]; rfl

/-- Behind a call of row. -/
theorem BT.row {f : Bool} {l : List Int} (h : BT W base b nb P SA cl m ss sv vals tb nv av rows accs rvals col) {W' : World} {sv' : Value} {vals' : List Value} {g : Nat → Int}
    (R : RwI W W' base b nb P SA f cl m ss sv vals l SA.length sv' vals' g) :
    ∃ col', BT W' base b nb P SA cl m (addsL ss (nextsL (cntL f P) SA l)) sv' vals' tb nv av rows accs rvals col' ∧ col' W.heap.size = 5 ∧ Ints W' (.slice (some ⟨W.heap.size, 0, none⟩) SA.length SA.length) (rowL (cntL f P) SA (addsL ss (nextsL (cntL f P) SA l)) l) := by
  have hz := R.off.size
  have ht : (nextsL (cntL f P) SA l).take SA.length = nextsL (cntL f P) SA l := List.take_of_length_le (by unfold nextsL; simp)
  have hbi := R.bi
  rw [ht] at hbi
  have hrow := R.row
  rw [ht] at hrow
  have hml : m < W.heap.size := by obtain ⟨M, hM, _⟩ := h.bi.map; exact hM.lt
  -- what is not the builder's own stands
  have keep : ∀ k, k < W.heap.size → col k ≠ 1 → W'.heap[k]? = W.heap[k]? := fun k hk hc => R.off.block k hk (fun e => hc (e ▸ h.cb)) (fun e => hc (e ▸ h.cm)) (fun e => hc (h.cs k e))
  have hsn : ∀ k, sv'.ownBlock = some k → sv.ownBlock = some k ∨ W.heap.size < k := fun k hk => by
    rcases R.news k hk with e | e
    · exact .inl e
    · right
      have : k ≠ W.heap.size := fun e2 => R.nr (by rw [hk, e2])
      omega
  refine ⟨fun k => if k < W.heap.size then col k else if sv'.ownBlock = some k then 1 else if k = W.heap.size then 5 else 6, ?_, ?_, row_ints R.nums hrow⟩
  · refine ⟨hbi, h.tab.same (keep tb h.tab.lt (by rw [h.ct]; decide)), row_kept h.nown (fun k e => keep k (h.nown.lt k e).2 (by rw [h.cn k e]; decide)), row_kept h.aown (fun k e => keep k (h.aown.lt k e).2 (by rw [h.ca k e]; decide)), fun j x hx => ?_, ?_, ?_, fun k e => ?_, ?_, fun k e => ?_, fun k e => ?_, fun x hx k e => ?_, h.tbb, fun k e => ?_⟩
    · obtain ⟨h1, h2⟩ := h.rws j x hx
      exact ⟨h1.kept (fun k e hlt => keep k hlt (by rw [(h2 k e).1]; decide)) hz, fun k e => ⟨by rw [if_pos (h2 k e).2]; exact (h2 k e).1, by have := (h2 k e).2; omega⟩⟩
    · rw [if_pos h.bi.obj.lt]; exact h.cb
    · rw [if_pos hml]; exact h.cm
    · by_cases hk : k < W.heap.size
      · rw [if_pos hk]
        rcases hsn k e with e2 | e2
        · exact h.cs k e2
        · omega
      · rw [if_neg hk, if_pos e]
    · rw [if_pos h.tab.lt]; exact h.ct
    · rw [if_pos (h.nown.lt k e).2]; exact h.cn k e
    · rw [if_pos (h.aown.lt k e).2]; exact h.ca k e
    · rcases R.nv x hx with h1 | h1
      · obtain ⟨j, hj⟩ := List.mem_iff_getElem?.1 h1
        rw [if_pos ((h.bi.rows j x hj).2.2.2 k e).2]; exact h.cv x h1 k e
      · have hk := h1 k e
        obtain ⟨j, hj⟩ := List.mem_iff_getElem?.1 hx
        have hne := ((R.bi.rows j x hj).2.2.2 k e).1
        rw [if_neg (by omega), if_neg hne, if_neg (by omega)]
    · have htb := h.tbb
      have htl := h.tab.lt
      split at e
      · exact h.five k e
      · omega
  · dsimp only
    rw [if_neg (Nat.lt_irrefl _), if_neg (fun e => R.nr e), if_pos rfl]

/-- Behind the append of a row to the table. -/
theorem BT.next (h : BT W base b nb P SA cl m ss sv vals tb nv av rows accs rvals col) {rv nv' : Value} {zs : List Int} (hi : Ints W rv zs) (hrv : ∀ k, rv.ownBlock = some k → col k = 5 ∧ k < W.heap.size) {w7 w8 : World} (hb : Below W.heap.size W w7)
    (hown : w8.ownsRow base 22 1 nv' (rows.length + 1) (rvals ++ [rv])) (hg : w7.grownBy w8 nv.ownBlock) (hat : ∀ k, nv'.ownBlock = some k → nv.ownBlock = some k ∨ W.heap.size ≤ k) :
    ∃ col', BT (w8.setCell ⟨tb, 256, none⟩ nv') base b nb P SA cl m ss sv vals tb nv' av (rows ++ [zs]) accs (rvals ++ [rv]) col' := by
  have hz7 := hb.size
  have hz8 := hg.size
  have hzs : (w8.setCell ⟨tb, 256, none⟩ nv').heap.size = w8.heap.size := by simp [World.setCell]
  have keep8 : ∀ k, k < W.heap.size → col k ≠ 3 → w8.heap[k]? = W.heap[k]? := fun k hk h3 => by
    rw [hg.block k (by omega) (fun e => h3 (h.cn k e.symm)), hb.block k hk]
  have keep : ∀ k, k < W.heap.size → col k ≠ 2 → col k ≠ 3 → (w8.setCell ⟨tb, 256, none⟩ nv').heap[k]? = W.heap[k]? := fun k hk h2 h3 => by
    rw [Below.heap_setCell _ _ _ _ (fun e => h2 (by rw [show k = tb from e]; exact h.ct)), keep8 k hk h3]
  have htl := h.tab.lt
  have hnt : nv'.ownBlock ≠ some tb := fun e => by
    rcases hat tb e with e | e
    · have := h.cn tb e; rw [h.ct] at this; exact absurd this (by decide)
    · omega
  have hrl : rvals.length = rows.length := by have := h.nown.1; simpa using this
  refine ⟨fun k => if k < W.heap.size then col k else 3, ⟨h.biKeep (by omega) (fun k hk hc => keep k hk (by rcases hc with e | e <;> rw [e] <;> decide) (by rcases hc with e | e <;> rw [e] <;> decide)), (h.tab.same (keep8 tb htl (by rw [h.ct]; decide))).putN nv', ?_, row_kept h.aown (fun k e => keep k (h.aown.lt k e).2 (by rw [h.ca k e]; decide) (by rw [h.ca k e]; decide)), fun j x hx => ?_, ?_, ?_, fun k e => ?_, ?_, fun k e => ?_, fun k e => ?_, fun x hx k e => ?_, h.tbb, fun k e => h.five k (by
    split at e
    · exact e
    · exact absurd e (by decide))⟩⟩
  · rw [List.length_append]
    exact row_kept hown (fun k e => Below.heap_setCell _ _ _ _ (fun e2 => hnt (by rw [e, e2])))
  · have lift : ∀ (y : Value) (ys : List Int), Ints W y ys → (∀ k, y.ownBlock = some k → col k = 5 ∧ k < W.heap.size) → Ints (w8.setCell ⟨tb, 256, none⟩ nv') y ys ∧ ∀ k, y.ownBlock = some k → (if k < W.heap.size then col k else 3) = 5 ∧ k < (w8.setCell ⟨tb, 256, none⟩ nv').heap.size := fun y ys g1 g2 =>
      ⟨g1.kept (fun k e hlt => keep k hlt (by rw [(g2 k e).1]; decide) (by rw [(g2 k e).1]; decide)) (by omega), fun k e => ⟨by rw [if_pos (g2 k e).2]; exact (g2 k e).1, by have := (g2 k e).2; omega⟩⟩
    by_cases hj : j < rvals.length
    · rw [List.getElem?_append_left hj] at hx
      have e : (rows ++ [zs]).getD j [] = rows.getD j [] := by rw [List.getD_eq_getElem?_getD, List.getD_eq_getElem?_getD, List.getElem?_append_left (by omega)]
      rw [e]
      exact lift x _ (h.rws j x hx).1 (h.rws j x hx).2
    · have hje : j = rows.length := by
        have := (List.getElem?_eq_some_iff.1 hx).1
        simp at this; omega
      subst hje
      have hxl : x = rv := by
        rw [List.getElem?_append_right (by omega), hrl, Nat.sub_self] at hx
        simpa using hx.symm
      subst hxl
      have e : (rows ++ [zs]).getD rows.length [] = zs := by simp [List.getD_eq_getElem?_getD]
      rw [e]
      exact lift x zs hi hrv
  · rw [if_pos h.bi.obj.lt]; exact h.cb
  · have hml : m < W.heap.size := by obtain ⟨M, hM, _⟩ := h.bi.map; exact hM.lt
    rw [if_pos hml]; exact h.cm
  · rw [if_pos (h.bi.own.lt k e).2]; exact h.cs k e
  · rw [if_pos htl]; exact h.ct
  · by_cases hk : k < W.heap.size
    · rw [if_pos hk]
      rcases hat k e with e2 | e2
      · exact h.cn k e2
      · omega
    · rw [if_neg hk]
  · rw [if_pos (h.aown.lt k e).2]; exact h.ca k e
  · obtain ⟨j, hj⟩ := List.mem_iff_getElem?.1 hx
    rw [if_pos ((h.bi.rows j x hj).2.2.2 k e).2]; exact h.cv x hx k e

/-- Behind the append of whether a set accepts. -/
theorem BT.acc (h : BT W base b nb P SA cl m ss sv vals tb nv av rows accs rvals col) {av' : Value} {q : Bool} {w7 w8 : World} (hb : Below W.heap.size W w7)
    (hown : w8.ownsRow base 4 1 av' (accs.length + 1) (accs.map Value.bool ++ [.bool q])) (hg : w7.grownBy w8 av.ownBlock) (hat : ∀ k, av'.ownBlock = some k → av.ownBlock = some k ∨ W.heap.size ≤ k) :
    ∃ col', BT (w8.setCell ⟨tb, 257, none⟩ av') base b nb P SA cl m ss sv vals tb nv av' rows (accs ++ [q]) rvals col' := by
  have hz7 := hb.size
  have hz8 := hg.size
  have hzs : (w8.setCell ⟨tb, 257, none⟩ av').heap.size = w8.heap.size := by simp [World.setCell]
  have keep8 : ∀ k, k < W.heap.size → col k ≠ 4 → w8.heap[k]? = W.heap[k]? := fun k hk h3 => by
    rw [hg.block k (by omega) (fun e => h3 (h.ca k e.symm)), hb.block k hk]
  have keep : ∀ k, k < W.heap.size → col k ≠ 2 → col k ≠ 4 → (w8.setCell ⟨tb, 257, none⟩ av').heap[k]? = W.heap[k]? := fun k hk h2 h3 => by
    rw [Below.heap_setCell _ _ _ _ (fun e => h2 (by rw [show k = tb from e]; exact h.ct)), keep8 k hk h3]
  have htl := h.tab.lt
  have hnt : av'.ownBlock ≠ some tb := fun e => by
    rcases hat tb e with e | e
    · have := h.ca tb e; rw [h.ct] at this; exact absurd this (by decide)
    · omega
  refine ⟨fun k => if k < W.heap.size then col k else 4, ⟨h.biKeep (by omega) (fun k hk hc => keep k hk (by rcases hc with e | e <;> rw [e] <;> decide) (by rcases hc with e | e <;> rw [e] <;> decide)), (h.tab.same (keep8 tb htl (by rw [h.ct]; decide))).putA av', row_kept h.nown (fun k e => keep k (h.nown.lt k e).2 (by rw [h.cn k e]; decide) (by rw [h.cn k e]; decide)), ?_, fun j x hx => ?_, ?_, ?_, fun k e => ?_, ?_, fun k e => ?_, fun k e => ?_, fun x hx k e => ?_, h.tbb, fun k e => h.five k (by
    split at e
    · exact e
    · exact absurd e (by decide))⟩⟩
  · rw [List.length_append, List.map_append]
    exact row_kept hown (fun k e => Below.heap_setCell _ _ _ _ (fun e2 => hnt (by rw [e, e2])))
  · obtain ⟨g1, g2⟩ := h.rws j x hx
    exact ⟨g1.kept (fun k e hlt => keep k hlt (by rw [(g2 k e).1]; decide) (by rw [(g2 k e).1]; decide)) (by omega), fun k e => ⟨by rw [if_pos (g2 k e).2]; exact (g2 k e).1, by have := (g2 k e).2; omega⟩⟩
  · rw [if_pos h.bi.obj.lt]; exact h.cb
  · have hml : m < W.heap.size := by obtain ⟨M, hM, _⟩ := h.bi.map; exact hM.lt
    rw [if_pos hml]; exact h.cm
  · rw [if_pos (h.bi.own.lt k e).2]; exact h.cs k e
  · rw [if_pos htl]; exact h.ct
  · rw [if_pos (h.nown.lt k e).2]; exact h.cn k e
  · by_cases hk : k < W.heap.size
    · rw [if_pos hk]
      rcases hat k e with e2 | e2
      · exact h.ca k e2
      · omega
    · rw [if_neg hk]
  · obtain ⟨j, hj⟩ := List.mem_iff_getElem?.1 hx
    rw [if_pos ((h.bi.rows j x hj).2.2.2 k e).2]; exact h.cv x hx k e

theorem BT.later (h : BT W base b nb P SA cl m ss sv vals tb nv av rows accs rvals col) {W' : World} (hb : Below W.heap.size W W') : BT W' base b nb P SA cl m ss sv vals tb nv av rows accs rvals col :=
  ⟨h.bi.later hb, h.tab.same (hb.block tb h.tab.lt), row_kept h.nown (fun k e => hb.block k (h.nown.lt k e).2), row_kept h.aown (fun k e => hb.block k (h.aown.lt k e).2), fun j x hx => by
    obtain ⟨g1, g2⟩ := h.rws j x hx
    exact ⟨g1.below hb, fun k e => ⟨(g2 k e).1, by have := (g2 k e).2; have := hb.size; omega⟩⟩, h.cb, h.cm, h.cs, h.ct, h.cn, h.ca, h.cv, h.tbb, h.five⟩
end

/-! The table as it is built: its classes come over whole -/
theorem fold_get (l : List Value) : ∀ (s : Nat) (z : Array Value) (i : Nat), ((l.zipIdx s).foldl (fun a p => a.setIfInBounds (0 + p.2) p.1) z)[i]? = if s ≤ i ∧ i < s + l.length ∧ i < z.size then l[i - s]? else z[i]? := by
  induction l with
  | nil =>
    intro s z i
    rw [if_neg (by rintro ⟨h1, h2, _⟩; simp at h2; omega)]
    rfl
  | cons v l ih =>
    intro s z i
    rw [List.zipIdx_cons, List.foldl_cons, ih]
    simp only [Nat.zero_add, Array.size_setIfInBounds, List.length_cons]
    by_cases h1 : s + 1 ≤ i ∧ i < s + 1 + l.length ∧ i < z.size
    · rw [if_pos h1, if_pos (by omega), show i - s = (i - (s + 1)) + 1 by omega, List.getElem?_cons_succ]
    · rw [if_neg h1]
      by_cases h2 : i = s
      · subst h2
        by_cases h3 : i < z.size
        · rw [if_pos (by omega), Nat.sub_self, Array.getElem?_setIfInBounds_self, if_pos h3]; rfl
        · rw [if_neg (by omega), Array.getElem?_eq_none (by simp; omega), Array.getElem?_eq_none (by omega)]
      · rw [if_neg (by omega), Array.getElem?_setIfInBounds_ne (Ne.symm h2)]
theorem fold_size (l : List Value) : ∀ (s : Nat) (z : Array Value), ((l.zipIdx s).foldl (fun a p => a.setIfInBounds (0 + p.2) p.1) z).size = z.size := by
  induction l with
  | nil => intro s z; rfl
  | cons v l ih => intro s z; rw [List.zipIdx_cons, List.foldl_cons, ih]; simp
def tabZero : Array Value := Array.replicate 256 (.int .i64 0) ++ #[.slice none 0 0, .slice none 0 0]
def clsCells (cl : Nat → Nat) : List Value := (List.range 256).map fun i => .int .i64 (cl i : Int)
theorem clsCells_at (cl : Nat → Nat) {i : Nat} (hi : i < 256) : (clsCells cl)[i]? = some (.int .i64 (cl i : Int)) := by unfold clsCells; rw [List.getElem?_map, List.getElem?_range hi]; rfl
theorem tab_filled (cl : Nat → Nat) : TabC (((clsCells cl).zipIdx 0).foldl (fun a p => a.setIfInBounds (0 + p.2) p.1) tabZero) cl (.slice none 0 0) (.slice none 0 0) := by
  have hz : tabZero.size = 258 := by simp [tabZero]
  have hl : (clsCells cl).length = 256 := by simp [clsCells]
  refine ⟨by rw [fold_size, hz], fun i hi => ?_, ?_, ?_⟩
  · rw [fold_get, if_pos (by omega), Nat.sub_zero]; exact clsCells_at cl hi
  · rw [fold_get, if_neg (by omega)]
    unfold tabZero
    rw [Array.getElem?_append_right (by simp)]; simp
  · rw [fold_get, if_neg (by omega)]
    unfold tabZero
    rw [Array.getElem?_append_right (by simp)]; simp
theorem TabC.parts {c : Array Value} {cl : Nat → Nat} {nv av : Value} (h : TabC c cl nv av) (nv' av' : Value) : TabC ((c.setIfInBounds 256 nv').setIfInBounds 257 av') cl nv' av' := by
  refine ⟨by simpa using h.size, fun i hi => ?_, ?_, ?_⟩
  · rw [Array.getElem?_setIfInBounds_ne (by omega), Array.getElem?_setIfInBounds_ne (by omega)]; exact h.cls i hi
  · rw [Array.getElem?_setIfInBounds_ne (by decide), Array.getElem?_setIfInBounds_self, if_pos (by rw [h.size]; decide)]
  · rw [Array.getElem?_setIfInBounds_self, if_pos (by simp [h.size])]
set_option maxRecDepth 100000 in
/-- table{class: ..}, as the walk lays it. -/
theorem zero_tab : Tryz.zeroCells81 = tabZero := by kernel_rfl
theorem tab_walk (cl : Nat → Nat) {cs : Array Value} (h : (clsCells cl).toArray = cs) : TabC (Array.foldl (fun cs x => cs.setIfInBounds x.snd x.fst) Tryz.zeroCells81 cs.zipIdx 0 cs.size) cl (.slice none 0 0) (.slice none 0 0) := by
  subst h
  have e : Array.foldl (fun cs x => cs.setIfInBounds x.snd x.fst) Tryz.zeroCells81 (clsCells cl).toArray.zipIdx 0 (clsCells cl).toArray.size = ((clsCells cl).zipIdx 0).foldl (fun a p => a.setIfInBounds (0 + p.2) p.1) tabZero := by
    rw [zero_tab]
    simp
  rw [e]
  exact tab_filled cl
end Go.Proofs.YtnpgmekgmelamaaGreat
