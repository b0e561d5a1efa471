/-
  What is proved: what the reference's Put and Drop return, and what is there then.
-/
import Derived.Test.YtnpgmekgmelamaaGreatIxRef
import Derived.Test.YtnpgmekgmelamaaGreatIxOrd
namespace Go.Proofs.YtnpgmekgmelamaaGreat
open Go.RowKit Go.Shelf Go.Maps

theorem ref_new (w : World) : Calls Tryz.prog 29 #[] w fun e w' => ∃ o v, e = .returned (.pointer (some ⟨o, 0, none⟩)) ∧ RefAt w' o [] w.heap.size v ∧ Below w.heap.size w w' := by
  go_enter Tryz.func29, Tryz.ntmps29
  go_wp2
  go_ret
  exact ⟨w.heap.size, .slice none 0 0, rfl, ⟨World.alloc_heap_new w _, OwnG.nil _ _, (fun e => by cases e), Nat.le_refl _⟩, (Below.refl _ _).alloc (Nat.le_refl _) _⟩

theorem own_empty (w : World) {B : Nat} (hB : B ≤ w.heap.size) : OwnG (w.alloc (.cells #[] 66)) B (.slice (some ⟨w.heap.size, 0, none⟩) 0 0) [] :=
  ⟨rfl, .inr ⟨w.heap.size, 0, #[], rfl, hB, World.alloc_heap_new w _, Nat.le_refl _, Nat.zero_le _, rfl, rfl⟩⟩
theorem OwnG.shape {w : World} {B : Nat} {v : Value} {L : List G} (h : OwnG w B v L) : ∃ a n c, v = .slice a n c := by
  obtain ⟨a, c, e, _⟩ := h.reads
  exact ⟨a, _, c, e⟩
theorem OwnG.alloc {w : World} {B : Nat} {v : Value} {L : List G} (h : OwnG w B v L) (x : Obj) : OwnG (w.alloc x) B v L := World.ownsRow.alloc h x
/-- One glob in a block of its own. -/
def LitG (W : World) (b : Nat) (g : G) : Prop := W.heap[b]? = some (.cells #[.int .i64 g.id, .string g.p, .bool g.f] 66 (0, 0))
theorem LitG.lt {W : World} {b : Nat} {g : G} (h : LitG W b g) : b < W.heap.size := (Array.getElem?_eq_some_iff.1 h).1
theorem lit_new (w : World) (g : G) : LitG (w.alloc (.cells #[.int .i64 g.id, .string g.p, .bool g.f] 66)) w.heap.size g := World.alloc_heap_new w _
theorem LitG.alloc {W : World} {b : Nat} {g : G} (h : LitG W b g) (x : Obj) : LitG (W.alloc x) b g := (Below.heap_alloc _ _ _ h.lt).trans h
theorem LitG.grown {w w' : World} {b : Nat} {g : G} {r : Option Nat} (h : LitG w b g) (hg : w.grownBy w' r) (hr : r ≠ some b) : LitG w' b g := (hg.block b h.lt (fun e => hr e.symm)).trans h
theorem LitG.cells {W : World} {b : Nat} {g : G} (h : LitG W b g) : ∀ (j : Nat) x, [g][j]? = some x → ∀ i, i < 3 → W.cell? ⟨b, 0 + j * 3 + i, none⟩ = (gCells x)[i]? := fun j x hx i hi => by
  have hj : j = 0 := by
    have := (List.getElem?_eq_some_iff.1 hx).1
    simp at this; omega
  subst hj
  have : g = x := by simpa using hx
  subst this
  rw [Nat.zero_mul, Nat.zero_add, cell_heap h]
  match i, hi with
  | 0, _ => rfl
  | 1, _ => rfl
  | 2, _ => rfl
theorem own_ne {w : World} {B : Nat} {v : Value} {L : List G} (h : OwnG w B v L) : v.ownBlock ≠ some w.heap.size := fun e => by
  have := (h.lt _ e).2
  omega

theorem wp_appG {o : Oper} {a : Act} {K : Act → World → Prop} {Q : Exit → Act → World → Prop} {w : World} (B : Nat) {v : Value} {ys zs : List G} (hown : OwnG w B v ys) {b off cap : Nat}
    (hc : ∀ j x, zs[j]? = some x → ∀ i, i < 3 → w.cell? ⟨b, off + j * 3 + i, none⟩ = (gCells x)[i]?) (hn : ys.length + zs.length ≤ 3000000) (hB : B ≤ w.heap.size)
    (sl x : Operand) (ho : o.op = .call { callee := .builtin .append, args := #[sl, x], argTypes := #[60, 60] })
    (hs : a.eval sl = v) (hx : a.eval x = .slice (some ⟨b, off, none⟩) zs.length cap)
    (h : ∀ v' w', OwnG w' B v' (ys ++ zs) → w.grownBy w' v.ownBlock → K (a.put o.dst v') w') : o.wp Tryz.prog a w K Q := by
  obtain ⟨i0, hi, hz0, hz1, hz2⟩ := info_parts info_glob
  refine wp_append_own w sl x 60 ho B 66 i0 _ 3 32 Tryz.underlying60 hi hz0 hz1 hz2 rfl (by decide) v ys.length _ hs hown ⟨b, off, none⟩ zs.length cap (gcells zs) hx (gcells_len zs) ?c1 (fun u hu => gcells_one hu) ?c3 ?c4 hB ?_
  case c1 =>
    intro j u hj
    obtain ⟨q, r, y, rfl, hr, hq, hu⟩ := gcells_at zs j u hj
    have : (⟨b, off, none⟩ : Addr).add (q * 3 + r) = ⟨b, off + q * 3 + r, none⟩ := by unfold Addr.add; split <;> simp_all [Nat.add_assoc]
    rw [this, hc q y hq r hr, hu]
  case c3 => unfold maxLen; omega
  case c4 => omega
  intro v' w' h1 h2 _
  refine h v' w' ?_ h2
  unfold OwnG
  rw [List.length_append, gcells_app]
  exact h1

/-- A list that lies in memory that was not there before. -/
def NewRow (W : World) (v : Value) : Prop := ∀ k, v.ownBlock = some k → W.heap.size ≤ k
theorem ref_set {W X : World} {o : Nat} {L M : List G} {B : Nat} {v v' : Value} (h : RefAt W o L B v) (hX : Below W.heap.size W X) (hO : OwnG X W.heap.size v' M) {b0 : Nat} (hb0 : b0 ≤ B) : RefAt (X.setCell ⟨o, 0, none⟩ v') o M b0 v' ∧ OnlyAt o W.heap.size W (X.setCell ⟨o, 0, none⟩ v') := by
  have hoX := h.below hX
  have hne : v'.ownBlock ≠ some o := fun e => by
    have h1 := (hO.lt _ e).1
    have h2 := h.lt
    omega
  have hat : OnlyAt o X.heap.size X (X.setCell ⟨o, 0, none⟩ v') := (OnlyAt.refl o X.heap.size X).set 0 v'
  have hg : X.grownBy (X.setCell ⟨o, 0, none⟩ v') (some o) := ⟨hat.os, hat.tape, hat.output, hat.size, fun k hk hn => hat.block k hk (fun e => hn (by rw [e]))⟩
  refine ⟨⟨?_, ?_, hne, Nat.le_trans hb0 h.ge⟩, (Below.onlyAt hX).trans (hat.mono hX.size)⟩
  · simp [World.setCell, Array.getElem?_modify, hoX.cell]
  · have hb : b0 ≤ W.heap.size := by have := h.lt; have := h.ge; omega
    obtain ⟨hl, hk⟩ := World.ownsRow.kept hO hg (.inr hne)
    refine ⟨hl, ?_⟩
    rcases hk with hk | ⟨g, cap, cur, e1, e2, r⟩
    · exact .inl hk
    · exact .inr ⟨g, cap, cur, e1, by omega, r⟩
theorem ref_src {W : World} {o : Nat} {L : List G} {B cap gb go : Nat} (h : RefAt W o L B (.slice (some ⟨gb, go, none⟩) L.length cap)) : L.length ≤ cap ∧ ∀ W', Below W.heap.size W W' → ∀ (j : Nat) x, L[j]? = some x → ∀ i, i < 3 → W'.cell? ⟨gb, go + j * 3 + i, none⟩ = (gCells x)[i]? := by
  constructor
  · rcases h.row.2 with ⟨e, _⟩ | ⟨g, c, cur, e, _, _, hnc, _⟩
    · cases e
    · injection e with _ _ e3
      omega
  · intro W' hW j x hx i hi
    obtain ⟨a, c, e, hc⟩ := (h.below hW).row.reads
    injection e with e1 _ _
    obtain ⟨b', o', e4, _, hcc⟩ := hc j x hx
    rw [← e1] at e4
    injection e4 with e4
    injection e4 with e5 e6
    rw [e5, e6]
    exact hcc i hi

theorem ref_drop {W : World} {o : Nat} {L : List G} {B cap gb go : Nat} (h : RefAt W o L B (.slice (some ⟨gb, go, none⟩) L.length cap)) (k : Nat) :
    ∃ dof : Nat, Hid ((if cap = k then (some ⟨gb, go, none⟩ : Option Addr) else some ⟨gb, go + k * 3, none⟩) = some ⟨gb, dof, none⟩) ∧ Hid (∀ X, Below W.heap.size W X → ∀ (j : Nat) x, (L.drop k)[j]? = some x → ∀ i, i < 3 → X.cell? ⟨gb, dof + j * 3 + i, none⟩ = (gCells x)[i]?) := by
  by_cases e : cap = k
  · refine ⟨go, Lib.hid (if_pos e), Lib.hid (fun X hX j x hx => ?_)⟩
    rw [List.drop_eq_nil_of_le (by have := (ref_src h).1; omega)] at hx
    simp at hx
  · refine ⟨go + k * 3, Lib.hid (if_neg e), Lib.hid (fun X hX j x hx i hi => ?_)⟩
    rw [show go + k * 3 + j * 3 + i = go + (k + j) * 3 + i by omega]
    exact (ref_src h).2 X hX (k + j) x (by rw [List.getElem?_drop] at hx; exact hx) i hi

set_option maxRecDepth 100000 in
set_option maxHeartbeats 8000000 in
theorem rput_some {W : World} {o : Nat} {L : List G} {B cap gb go : Nat} (h : RefAt W o L B (.slice (some ⟨gb, go, none⟩) L.length cap)) (hs : Sorted L) (hlen : L.length ≤ 200) (i : Int) (p : ByteArray) (f : Bool) (hE : putE L i p = 0) (b0 : Nat) (hb0 : b0 ≤ B) :
    Calls Tryz.prog 30 #[.pointer (some ⟨o, 0, none⟩), .int .i64 i, .string p, .bool f] W fun e w' => e = .returned (.int .i64 0) ∧ (∃ v', RefAt w' o (insG ⟨i, p, f⟩ L) b0 v' ∧ NewRow W v') ∧ OnlyAt o W.heap.size W w' := by
  obtain ⟨hi0, hno, hck, hl2⟩ := putE_ok hE
  have C1 := Lib.hid (rhas_any h hs hlen i)
  have C2 := Lib.hid (refCheck p W)
  have C3 := Lib.hid (rat_any h hlen i)
  rw [hno] at C1
  rw [hck] at C2
  have c0 := h.c0
  have hiz : ¬ i < 0 := by omega
  have hl2z : ¬ (200 : Int) ≤ (L.length : Int) := by omega
  have hkl := plc_le i L
  have hins := ins_plc ⟨i, p, f⟩ L
  dsimp only at hins
  obtain ⟨k, hk⟩ : ∃ k, plc i L = k := ⟨_, rfl⟩
  rw [hk] at C3 hkl hins
  have HI := Lib.hid hins
  have hcap := (ref_src h).1
  have HC0 : Hid (∀ X, Below W.heap.size W X → X.cell? ⟨o, 0, none⟩ = some (.slice (some ⟨gb, go, none⟩) L.length cap)) := Lib.hid (fun X hX => (h.below hX).c0)
  have HF0 : Hid (∀ X, Below W.heap.size W X → X.frozen? ⟨o, 0, none⟩ = false) := Lib.hid (fun X hX => by simp [World.frozen?, (h.below hX).cell])
  have HTK : Hid (∀ X, Below W.heap.size W X → ∀ (j : Nat) x, (L.take k)[j]? = some x → ∀ i, i < 3 → X.cell? ⟨gb, go + j * 3 + i, none⟩ = (gCells x)[i]?) := Lib.hid (fun X hX j x hx i hi => (ref_src h).2 X hX j x (by
    rw [List.getElem?_take] at hx
    split at hx
    · exact hx
    · cases hx) i hi)
  obtain ⟨dof, HDO, HDR⟩ := ref_drop h k
  have HXT : Hid ((L.take k).length = k) := Lib.hid (by rw [List.length_take]; omega)
  have HXD : Hid ((L.drop k).length = L.length - k) := Lib.hid List.length_drop
  have HEND : Hid (∀ X, Below W.heap.size W X → ∀ v', OwnG X W.heap.size v' ([] ++ L.take k ++ [⟨i, p, f⟩] ++ L.drop k) → (∃ v'', RefAt (X.setCell ⟨o, 0, none⟩ v') o (insG ⟨i, p, f⟩ L) b0 v'' ∧ NewRow W v'') ∧ OnlyAt o W.heap.size W (X.setCell ⟨o, 0, none⟩ v')) := Lib.hid (fun X hX v' hO => by
    rw [show [] ++ L.take k ++ [⟨i, p, f⟩] ++ L.drop k = insG ⟨i, p, f⟩ L by rw [HI.out, List.nil_append, List.append_assoc]; rfl] at hO
    obtain ⟨h1, h2⟩ := ref_set h hX hO hb0
    exact ⟨⟨v', h1, fun k hk => (hO.lt k hk).1⟩, h2⟩)
  have hJ0 : Below W.heap.size W W.drew := (Below.refl _ _).drew
  have kz1 : (k : Int) ≤ (cap : Int) := by omega
  have kz2 : (k : Int) ≤ (L.length : Int) := by omega
  have kz3 : (0 : Int) ≤ (k : Int) := by omega
  have kz4 : (L.length : Int) ≤ (cap : Int) := by omega
  clear h hs hE hi0 hno hck hk hins hb0
  go_enter Tryz.func30, Tryz.ntmps30
  go_wp2_with (first
    | (go_at_call 38; refine C1.out.mono ?_; rintro e w1 ⟨rfl, e1⟩; rw [e1]; clear e1 w1)
    | (go_at_call 66; refine C2.out.mono ?_; rintro e w1 ⟨rfl, e1⟩; rw [e1]; clear e1 w1)
    | (go_at_call 67; refine C3.out.mono ?_; rintro e w1 ⟨rfl, e1⟩; rw [e1]; clear e1 w1))
  refine wp_region_last (S := (fun w' => w'.cell? ⟨o, 0, none⟩ = some (.slice (some ⟨gb, go, none⟩) L.length cap))) (z := 24) (by kernel_rfl) ?_ (fun hHeld => ?_)
  · exact HC0.out _ hJ0
  generalize W.drew = W0 at hHeld hJ0 ⊢
  refine wpLast_take (i := 0) (o := { dst := some 34, op := Op.move (Operand.tmp 0), type := 51, pos := "ref.go:46", after := #[], guard := none }) (v := ?vp1) rfl (by kernel_rfl) (by kernel_rfl) (by kernel_rfl) (fun _ _ _ h => h) (by kernel_rfl) (Or.inl ⟨by rfl, ?hp1⟩) (by assumption) ?rp1
  case hp1 => (intro w hSw; (try dsimp only at hSw); go_simp; try with_reducible rfl)
  try simp only [Act.put, List.setIfInBounds_toArray, List.set_cons_zero, List.set_cons_succ]
  refine wpLast_take (i := 2) (o := { dst := some 36, op := Op.move (Operand.tmp 0), type := 51, pos := "ref.go:46", after := #[], guard := none }) (v := ?vp2) rfl (by kernel_rfl) (by kernel_rfl) (by kernel_rfl) (fun _ _ _ h => h) (by kernel_rfl) (Or.inl ⟨by rfl, ?hp2⟩) (by assumption) ?rp2
  case hp2 => (intro w hSw; (try dsimp only at hSw); go_simp; try with_reducible rfl)
  try simp only [Act.put, List.setIfInBounds_toArray, List.set_cons_zero, List.set_cons_succ]
  refine wpLast_take (i := 3) (o := { dst := some 37, op := Op.nilCheck (Operand.tmp 36), type := 0, pos := "ref.go:46", after := #[{ on := 2, ground := Ground.data }], guard := none }) (v := ?vp3) rfl (by kernel_rfl) (by kernel_rfl) (by kernel_rfl) (fun _ _ _ h => h) (by kernel_rfl) (Or.inl ⟨by rfl, ?hp3⟩) (by assumption) ?rp3
  case hp3 => (intro w hSw; (try dsimp only at hSw); go_simp; try with_reducible rfl)
  try simp only [Act.put, List.setIfInBounds_toArray, List.set_cons_zero, List.set_cons_succ]
  refine wpLast_take (i := 4) (o := { dst := some 38, op := Op.fieldAddr 62 (Operand.tmp 37) 0, type := 0, pos := "ref.go:46", after := #[{ on := 3, ground := Ground.data }], guard := none }) (v := ?vp4) rfl (by kernel_rfl) (by kernel_rfl) (by kernel_rfl) (fun _ _ _ h => h) (by kernel_rfl) (Or.inl ⟨by rfl, ?hp4⟩) (by assumption) ?rp4
  case hp4 => (intro w hSw; (try dsimp only at hSw); go_simp; try with_reducible rfl)
  try simp only [Act.put, List.setIfInBounds_toArray, List.set_cons_zero, List.set_cons_succ]
  refine wpLast_take (i := 5) (o := { dst := some 39, op := Op.load 60 (Operand.tmp 38), type := 60, pos := "ref.go:46", after := #[{ on := 4, ground := Ground.data }], guard := none }) (v := ?vp5) rfl (by kernel_rfl) (by kernel_rfl) (by kernel_rfl) (fun _ _ _ h => h) (by kernel_rfl) (Or.inl ⟨by rfl, ?hp5⟩) (by assumption) ?rp5
  case hp5 => (intro w hSw; (try dsimp only at hSw); go_simp; try with_reducible rfl)
  try simp only [Act.put, List.setIfInBounds_toArray, List.set_cons_zero, List.set_cons_succ]
  refine wpLast_take (i := 6) (o := { dst := some 40, op := Op.move (Operand.tmp 10), type := 3, pos := "ref.go:46", after := #[], guard := none }) (v := ?vp6) rfl (by kernel_rfl) (by kernel_rfl) (by kernel_rfl) (fun _ _ _ h => h) (by kernel_rfl) (Or.inl ⟨by rfl, ?hp6⟩) (by assumption) ?rp6
  case hp6 => (intro w hSw; (try dsimp only at hSw); go_simp; try with_reducible rfl)
  try simp only [Act.put, List.setIfInBounds_toArray, List.set_cons_zero, List.set_cons_succ]
  refine wpLast_take (i := 7) (o := { dst := some 41, op := Op.slice 60 (Operand.tmp 39) none (some (Operand.tmp 40)) none, type := 60, pos := "ref.go:46", after := #[{ on := 5, ground := Ground.data }, { on := 6, ground := Ground.data }], guard := none }) (v := ?vp7) rfl (by kernel_rfl) (by kernel_rfl) (by kernel_rfl) (fun _ _ _ h => h) (by kernel_rfl) (Or.inl ⟨by rfl, ?hp7⟩) (by assumption) ?rp7
  case hp7 => (intro w hSw; (try dsimp only at hSw); go_simp; try with_reducible rfl)
  try simp only [Act.put, List.setIfInBounds_toArray, List.set_cons_zero, List.set_cons_succ]
  refine wpLast_take (i := 9) (o := { dst := some 43, op := Op.move (Operand.tmp 1), type := 3, pos := "ref.go:46", after := #[], guard := none }) (v := ?vp8) rfl (by kernel_rfl) (by kernel_rfl) (by kernel_rfl) (fun _ _ _ h => h) (by kernel_rfl) (Or.inl ⟨by rfl, ?hp8⟩) (by assumption) ?rp8
  case hp8 => (intro w hSw; (try dsimp only at hSw); go_simp; try with_reducible rfl)
  try simp only [Act.put, List.setIfInBounds_toArray, List.set_cons_zero, List.set_cons_succ]
  refine wpLast_take (i := 10) (o := { dst := some 44, op := Op.move (Operand.tmp 2), type := 9, pos := "ref.go:46", after := #[], guard := none }) (v := ?vp9) rfl (by kernel_rfl) (by kernel_rfl) (by kernel_rfl) (fun _ _ _ h => h) (by kernel_rfl) (Or.inl ⟨by rfl, ?hp9⟩) (by assumption) ?rp9
  case hp9 => (intro w hSw; (try dsimp only at hSw); go_simp; try with_reducible rfl)
  try simp only [Act.put, List.setIfInBounds_toArray, List.set_cons_zero, List.set_cons_succ]
  refine wpLast_take (i := 11) (o := { dst := some 45, op := Op.move (Operand.tmp 3), type := 4, pos := "ref.go:46", after := #[], guard := none }) (v := ?vp10) rfl (by kernel_rfl) (by kernel_rfl) (by kernel_rfl) (fun _ _ _ h => h) (by kernel_rfl) (Or.inl ⟨by rfl, ?hp10⟩) (by assumption) ?rp10
  case hp10 => (intro w hSw; (try dsimp only at hSw); go_simp; try with_reducible rfl)
  try simp only [Act.put, List.setIfInBounds_toArray, List.set_cons_zero, List.set_cons_succ]
  refine wpLast_take (i := 12) (o := { dst := some 46, op := Op.build 66 #[(0, Operand.tmp 43), (1, Operand.tmp 44), (2, Operand.tmp 45)], type := 66, pos := "ref.go:46", after := #[{ on := 9, ground := Ground.data }, { on := 10, ground := Ground.data }, { on := 11, ground := Ground.data }], guard := none }) (v := ?vp11) rfl (by kernel_rfl) (by kernel_rfl) (by kernel_rfl) (fun _ _ _ h => h) (by kernel_rfl) (Or.inl ⟨by rfl, ?hp11⟩) (by assumption) ?rp11
  case hp11 => (intro w hSw; (try dsimp only at hSw); go_simp; try with_reducible rfl)
  try simp only [Act.put, List.setIfInBounds_toArray, List.set_cons_zero, List.set_cons_succ]
  refine wpLast_take (i := 15) (o := { dst := some 49, op := Op.move (Operand.tmp 0), type := 51, pos := "ref.go:46", after := #[], guard := none }) (v := ?vp12) rfl (by kernel_rfl) (by kernel_rfl) (by kernel_rfl) (fun _ _ _ h => h) (by kernel_rfl) (Or.inl ⟨by rfl, ?hp12⟩) (by assumption) ?rp12
  case hp12 => (intro w hSw; (try dsimp only at hSw); go_simp; try with_reducible rfl)
  try simp only [Act.put, List.setIfInBounds_toArray, List.set_cons_zero, List.set_cons_succ]
  refine wpLast_take (i := 16) (o := { dst := some 50, op := Op.nilCheck (Operand.tmp 49), type := 0, pos := "ref.go:46", after := #[{ on := 15, ground := Ground.data }], guard := none }) (v := ?vp13) rfl (by kernel_rfl) (by kernel_rfl) (by kernel_rfl) (fun _ _ _ h => h) (by kernel_rfl) (Or.inl ⟨by rfl, ?hp13⟩) (by assumption) ?rp13
  case hp13 => (intro w hSw; (try dsimp only at hSw); go_simp; try with_reducible rfl)
  try simp only [Act.put, List.setIfInBounds_toArray, List.set_cons_zero, List.set_cons_succ]
  refine wpLast_take (i := 17) (o := { dst := some 51, op := Op.fieldAddr 62 (Operand.tmp 50) 0, type := 0, pos := "ref.go:46", after := #[{ on := 16, ground := Ground.data }], guard := none }) (v := ?vp14) rfl (by kernel_rfl) (by kernel_rfl) (by kernel_rfl) (fun _ _ _ h => h) (by kernel_rfl) (Or.inl ⟨by rfl, ?hp14⟩) (by assumption) ?rp14
  case hp14 => (intro w hSw; (try dsimp only at hSw); go_simp; try with_reducible rfl)
  try simp only [Act.put, List.setIfInBounds_toArray, List.set_cons_zero, List.set_cons_succ]
  refine wpLast_take (i := 18) (o := { dst := some 52, op := Op.load 60 (Operand.tmp 51), type := 60, pos := "ref.go:46", after := #[{ on := 17, ground := Ground.data }], guard := none }) (v := ?vp15) rfl (by kernel_rfl) (by kernel_rfl) (by kernel_rfl) (fun _ _ _ h => h) (by kernel_rfl) (Or.inl ⟨by rfl, ?hp15⟩) (by assumption) ?rp15
  case hp15 => (intro w hSw; (try dsimp only at hSw); go_simp; try with_reducible rfl)
  try simp only [Act.put, List.setIfInBounds_toArray, List.set_cons_zero, List.set_cons_succ]
  refine wpLast_take (i := 19) (o := { dst := some 53, op := Op.move (Operand.tmp 10), type := 3, pos := "ref.go:46", after := #[], guard := none }) (v := ?vp16) rfl (by kernel_rfl) (by kernel_rfl) (by kernel_rfl) (fun _ _ _ h => h) (by kernel_rfl) (Or.inl ⟨by rfl, ?hp16⟩) (by assumption) ?rp16
  case hp16 => (intro w hSw; (try dsimp only at hSw); go_simp; try with_reducible rfl)
  try simp only [Act.put, List.setIfInBounds_toArray, List.set_cons_zero, List.set_cons_succ]
  refine wpLast_take (i := 20) (o := { dst := some 54, op := Op.slice 60 (Operand.tmp 52) (some (Operand.tmp 53)) none none, type := 60, pos := "ref.go:46", after := #[{ on := 18, ground := Ground.data }, { on := 19, ground := Ground.data }], guard := none }) (v := ?vp17) rfl (by kernel_rfl) (by kernel_rfl) (by kernel_rfl) (fun _ _ _ h => h) (by kernel_rfl) (Or.inl ⟨by rfl, ?hp17⟩) (by assumption) ?rp17
  case hp17 => (intro w hSw; (try dsimp only at hSw); go_simp; try with_reducible rfl)
  try simp only [Act.put, List.setIfInBounds_toArray, List.set_cons_zero, List.set_cons_succ]
  refine wpLast_ready (rs := [1, 13]) (by kernel_rfl) (by simp) (LastReady.cons (o := { dst := some 35, op := Op.buildSlice 60 0 #[], type := 60, pos := "ref.go:46", after := #[], guard := none }) rfl (fun K hK => ?_) (LastReady.cons (o := { dst := some 47, op := Op.buildSlice 60 1 #[(0, Operand.tmp 46)], type := 60, pos := "ref.go:46", after := #[{ on := 12, ground := Ground.data }], guard := none }) rfl (fun K hK => ?_) LastReady.nil))
  · go_simp
    have hJ18 := hJ0.alloc hJ0.size (.cells #[] 66)
    have hO18 := own_empty W0 hJ0.size
    generalize W0.alloc (.cells #[] 66) = w18 at hJ18 hO18 ⊢
    have hS19 := HC0.out _ hJ18
    refine hK.out _ _ (fun _ => HC0.out _ hJ18) ?_
    clear hK K
    try simp only [Act.put, List.setIfInBounds_toArray, List.set_cons_zero, List.set_cons_succ]
    refine wpLast_ready (rs := [8, 13]) (by kernel_rfl) (by simp) (LastReady.cons (o := { dst := some 42, op := Op.call { callee := Callee.builtin Builtin.append, args := #[Operand.tmp 35, Operand.tmp 41], argTypes := #[60, 60] }, type := 60, pos := "ref.go:46", after := #[{ on := 1, ground := Ground.data }, { on := 7, ground := Ground.data }], guard := none }) rfl (fun K hK => ?_) (LastReady.cons (o := { dst := some 47, op := Op.buildSlice 60 1 #[(0, Operand.tmp 46)], type := 60, pos := "ref.go:46", after := #[{ on := 12, ground := Ground.data }], guard := none }) rfl (fun K hK => ?_) LastReady.nil))
    · rw [if_pos (by rfl)]
      refine wp_appG W.heap.size hO18 (HTK.out _ hJ18) (by simp; omega) hJ18.size _ _ rfl rfl (by rw [HXT.out]; rfl) ?_
      intro v20 w20 hO20 hg20
      have hJ20 := below_appG hJ18 hO18 hJ18.size hg20
      have hS21 := HC0.out _ hJ20
      refine hK.out _ _ (fun _ => HC0.out _ hJ20) ?_
      clear hK K
      try simp only [Act.put, List.setIfInBounds_toArray, List.set_cons_zero, List.set_cons_succ]
      refine wpLast_ready (rs := [13]) (by kernel_rfl) (by simp) (LastReady.cons (o := { dst := some 47, op := Op.buildSlice 60 1 #[(0, Operand.tmp 46)], type := 60, pos := "ref.go:46", after := #[{ on := 12, ground := Ground.data }], guard := none }) rfl (fun K hK => ?_) LastReady.nil)
      go_simp
      have hJ22 := hJ20.alloc hJ20.size (.cells #[.int .i64 i, .string p, .bool f] 66)
      have hL22 := lit_new w20 ⟨i, p, f⟩
      have hO22 := hO20.alloc (.cells #[.int .i64 i, .string p, .bool f] 66)
      have hN22 := own_ne hO20
      dsimp only at hL22
      generalize w20.alloc (.cells #[.int .i64 i, .string p, .bool f] 66) = w22 at hJ22 hL22 hO22 ⊢
      have hS23 := HC0.out _ hJ22
      refine hK.out _ _ (fun _ => HC0.out _ hJ22) ?_
      clear hK K
      try simp only [Act.put, List.setIfInBounds_toArray, List.set_cons_zero, List.set_cons_succ]
      refine wpLast_ready (rs := [14]) (by kernel_rfl) (by simp) (LastReady.cons (o := { dst := some 48, op := Op.call { callee := Callee.builtin Builtin.append, args := #[Operand.tmp 42, Operand.tmp 47], argTypes := #[60, 60] }, type := 60, pos := "ref.go:46", after := #[{ on := 8, ground := Ground.data }, { on := 13, ground := Ground.data }, { on := 8, ground := Ground.chain }], guard := none }) rfl (fun K hK => ?_) LastReady.nil)
      rw [if_pos (by rfl)]
      refine wp_appG W.heap.size hO22 hL22.cells (by simp; omega) hJ22.size _ _ rfl rfl rfl ?_
      intro v24 w24 hO24 hg24
      have hJ24 := below_appG hJ22 hO22 hJ22.size hg24
      have hS25 := HC0.out _ hJ24
      refine hK.out _ _ (fun _ => HC0.out _ hJ24) ?_
      clear hK K
      try simp only [Act.put, List.setIfInBounds_toArray, List.set_cons_zero, List.set_cons_succ]
      refine wpLast_ready (rs := [21]) (by kernel_rfl) (by simp) (LastReady.cons (o := { dst := some 55, op := Op.call { callee := Callee.builtin Builtin.append, args := #[Operand.tmp 48, Operand.tmp 54], argTypes := #[60, 60] }, type := 60, pos := "ref.go:46", after := #[{ on := 14, ground := Ground.data }, { on := 20, ground := Ground.data }, { on := 14, ground := Ground.chain }], guard := none }) rfl (fun K hK => ?_) LastReady.nil)
      rw [if_pos (by rfl)]
      refine wp_appG W.heap.size hO24 (HDR.out _ hJ24) (by simp; omega) hJ24.size _ _ rfl rfl (by rw [HXD.out]; exact congrArg (fun z => Value.slice z (L.length - k) (cap - k)) HDO.out) ?_
      intro v26 w26 hO26 hg26
      have hJ26 := below_appG hJ24 hO24 hJ24.size hg26
      have hS27 := HC0.out _ hJ26
      refine hK.out _ _ (fun _ => HC0.out _ hJ26) ?_
      clear hK K
      try simp only [Act.put, List.setIfInBounds_toArray, List.set_cons_zero, List.set_cons_succ]
      refine wpLast_ready (rs := [22]) (by kernel_rfl) (by simp) (LastReady.cons (o := { dst := some 56, op := Op.nilCheck (Operand.tmp 34), type := 0, pos := "ref.go:46", after := #[{ on := 0, ground := Ground.data }, { on := 0, ground := Ground.phase }, { on := 1, ground := Ground.phase }, { on := 2, ground := Ground.phase }, { on := 3, ground := Ground.phase }, { on := 4, ground := Ground.phase }, { on := 5, ground := Ground.phase }, { on := 6, ground := Ground.phase }, { on := 7, ground := Ground.phase }, { on := 8, ground := Ground.phase }, { on := 9, ground := Ground.phase }, { on := 10, ground := Ground.phase }, { on := 11, ground := Ground.phase }, { on := 12, ground := Ground.phase }, { on := 13, ground := Ground.phase }, { on := 14, ground := Ground.phase }, { on := 15, ground := Ground.phase }, { on := 16, ground := Ground.phase }, { on := 17, ground := Ground.phase }, { on := 18, ground := Ground.phase }, { on := 19, ground := Ground.phase }, { on := 20, ground := Ground.phase }, { on := 21, ground := Ground.phase }], guard := none }) rfl (fun K hK => ?_) LastReady.nil)
      go_simp
      have hS28 := HC0.out _ hJ26
      refine hK.out _ _ (fun _ => HC0.out _ hJ26) ?_
      clear hK K
      try simp only [Act.put, List.setIfInBounds_toArray, List.set_cons_zero, List.set_cons_succ]
      refine wpLast_take (i := 23) (o := { dst := some 57, op := Op.fieldAddr 62 (Operand.tmp 56) 0, type := 0, pos := "ref.go:46", after := #[{ on := 22, ground := Ground.data }, { on := 0, ground := Ground.phase }, { on := 1, ground := Ground.phase }, { on := 2, ground := Ground.phase }, { on := 3, ground := Ground.phase }, { on := 4, ground := Ground.phase }, { on := 5, ground := Ground.phase }, { on := 6, ground := Ground.phase }, { on := 7, ground := Ground.phase }, { on := 8, ground := Ground.phase }, { on := 9, ground := Ground.phase }, { on := 10, ground := Ground.phase }, { on := 11, ground := Ground.phase }, { on := 12, ground := Ground.phase }, { on := 13, ground := Ground.phase }, { on := 14, ground := Ground.phase }, { on := 15, ground := Ground.phase }, { on := 16, ground := Ground.phase }, { on := 17, ground := Ground.phase }, { on := 18, ground := Ground.phase }, { on := 19, ground := Ground.phase }, { on := 20, ground := Ground.phase }, { on := 21, ground := Ground.phase }], guard := none }) (v := ?vp29) rfl (by kernel_rfl) (by kernel_rfl) (by kernel_rfl) (fun _ _ _ h => h) (by kernel_rfl) (Or.inl ⟨by rfl, ?hp29⟩) (by assumption) ?rp29
      case hp29 => (intro w hSw; (try dsimp only at hSw); go_simp; try with_reducible rfl)
      try simp only [Act.put, List.setIfInBounds_toArray, List.set_cons_zero, List.set_cons_succ]
      refine wpLast_ready (rs := [24]) (by kernel_rfl) (by simp) (LastReady.cons (o := { dst := none, op := Op.store 60 (Operand.tmp 57) (Operand.tmp 55), type := 0, pos := "ref.go:46", after := #[{ on := 23, ground := Ground.data }, { on := 21, ground := Ground.data }, { on := 21, ground := Ground.chain }, { on := 0, ground := Ground.phase }, { on := 1, ground := Ground.phase }, { on := 2, ground := Ground.phase }, { on := 3, ground := Ground.phase }, { on := 4, ground := Ground.phase }, { on := 5, ground := Ground.phase }, { on := 6, ground := Ground.phase }, { on := 7, ground := Ground.phase }, { on := 8, ground := Ground.phase }, { on := 9, ground := Ground.phase }, { on := 10, ground := Ground.phase }, { on := 11, ground := Ground.phase }, { on := 12, ground := Ground.phase }, { on := 13, ground := Ground.phase }, { on := 14, ground := Ground.phase }, { on := 15, ground := Ground.phase }, { on := 16, ground := Ground.phase }, { on := 17, ground := Ground.phase }, { on := 18, ground := Ground.phase }, { on := 19, ground := Ground.phase }, { on := 20, ground := Ground.phase }, { on := 21, ground := Ground.phase }], guard := none }) rfl (fun K hK => ?_) LastReady.nil)
      have kc30 := HC0.out _ hJ26
      have kf30 := HF0.out _ hJ26
      obtain ⟨sa30, sn30, sc30, rfl⟩ := hO26.shape
      go_simp
      refine hK.out _ _ (fun e => absurd rfl e) ?_
      clear hK K
      try simp only [Act.put, List.setIfInBounds_toArray, List.set_cons_zero, List.set_cons_succ]
      refine wpLast_done (by kernel_rfl) ?_ _
      have HFIN := Lib.hid (HEND.out w26 hJ26 _ hO26)
      go_wp2
      all_goals
        go_ret
        exact ⟨rfl, HFIN.out⟩
    · go_simp
      have hJ31 := hJ18.alloc hJ18.size (.cells #[.int .i64 i, .string p, .bool f] 66)
      have hL31 := lit_new w18 ⟨i, p, f⟩
      have hO31 := hO18.alloc (.cells #[.int .i64 i, .string p, .bool f] 66)
      have hN31 := own_ne hO18
      dsimp only at hL31
      generalize w18.alloc (.cells #[.int .i64 i, .string p, .bool f] 66) = w31 at hJ31 hL31 hO31 ⊢
      have hS32 := HC0.out _ hJ31
      refine hK.out _ _ (fun _ => HC0.out _ hJ31) ?_
      clear hK K
      try simp only [Act.put, List.setIfInBounds_toArray, List.set_cons_zero, List.set_cons_succ]
      refine wpLast_ready (rs := [8]) (by kernel_rfl) (by simp) (LastReady.cons (o := { dst := some 42, op := Op.call { callee := Callee.builtin Builtin.append, args := #[Operand.tmp 35, Operand.tmp 41], argTypes := #[60, 60] }, type := 60, pos := "ref.go:46", after := #[{ on := 1, ground := Ground.data }, { on := 7, ground := Ground.data }], guard := none }) rfl (fun K hK => ?_) LastReady.nil)
      rw [if_pos (by rfl)]
      refine wp_appG W.heap.size hO31 (HTK.out _ hJ31) (by simp; omega) hJ31.size _ _ rfl rfl (by rw [HXT.out]; rfl) ?_
      intro v33 w33 hO33 hg33
      have hJ33 := below_appG hJ31 hO31 hJ31.size hg33
      have hL33 := hL31.grown hg33 hN31
      have hS34 := HC0.out _ hJ33
      refine hK.out _ _ (fun _ => HC0.out _ hJ33) ?_
      clear hK K
      try simp only [Act.put, List.setIfInBounds_toArray, List.set_cons_zero, List.set_cons_succ]
      refine wpLast_ready (rs := [14]) (by kernel_rfl) (by simp) (LastReady.cons (o := { dst := some 48, op := Op.call { callee := Callee.builtin Builtin.append, args := #[Operand.tmp 42, Operand.tmp 47], argTypes := #[60, 60] }, type := 60, pos := "ref.go:46", after := #[{ on := 8, ground := Ground.data }, { on := 13, ground := Ground.data }, { on := 8, ground := Ground.chain }], guard := none }) rfl (fun K hK => ?_) LastReady.nil)
      rw [if_pos (by rfl)]
      refine wp_appG W.heap.size hO33 hL33.cells (by simp; omega) hJ33.size _ _ rfl rfl rfl ?_
      intro v35 w35 hO35 hg35
      have hJ35 := below_appG hJ33 hO33 hJ33.size hg35
      have hS36 := HC0.out _ hJ35
      refine hK.out _ _ (fun _ => HC0.out _ hJ35) ?_
      clear hK K
      try simp only [Act.put, List.setIfInBounds_toArray, List.set_cons_zero, List.set_cons_succ]
      refine wpLast_ready (rs := [21]) (by kernel_rfl) (by simp) (LastReady.cons (o := { dst := some 55, op := Op.call { callee := Callee.builtin Builtin.append, args := #[Operand.tmp 48, Operand.tmp 54], argTypes := #[60, 60] }, type := 60, pos := "ref.go:46", after := #[{ on := 14, ground := Ground.data }, { on := 20, ground := Ground.data }, { on := 14, ground := Ground.chain }], guard := none }) rfl (fun K hK => ?_) LastReady.nil)
      rw [if_pos (by rfl)]
      refine wp_appG W.heap.size hO35 (HDR.out _ hJ35) (by simp; omega) hJ35.size _ _ rfl rfl (by rw [HXD.out]; exact congrArg (fun z => Value.slice z (L.length - k) (cap - k)) HDO.out) ?_
      intro v37 w37 hO37 hg37
      have hJ37 := below_appG hJ35 hO35 hJ35.size hg37
      have hS38 := HC0.out _ hJ37
      refine hK.out _ _ (fun _ => HC0.out _ hJ37) ?_
      clear hK K
      try simp only [Act.put, List.setIfInBounds_toArray, List.set_cons_zero, List.set_cons_succ]
      refine wpLast_ready (rs := [22]) (by kernel_rfl) (by simp) (LastReady.cons (o := { dst := some 56, op := Op.nilCheck (Operand.tmp 34), type := 0, pos := "ref.go:46", after := #[{ on := 0, ground := Ground.data }, { on := 0, ground := Ground.phase }, { on := 1, ground := Ground.phase }, { on := 2, ground := Ground.phase }, { on := 3, ground := Ground.phase }, { on := 4, ground := Ground.phase }, { on := 5, ground := Ground.phase }, { on := 6, ground := Ground.phase }, { on := 7, ground := Ground.phase }, { on := 8, ground := Ground.phase }, { on := 9, ground := Ground.phase }, { on := 10, ground := Ground.phase }, { on := 11, ground := Ground.phase }, { on := 12, ground := Ground.phase }, { on := 13, ground := Ground.phase }, { on := 14, ground := Ground.phase }, { on := 15, ground := Ground.phase }, { on := 16, ground := Ground.phase }, { on := 17, ground := Ground.phase }, { on := 18, ground := Ground.phase }, { on := 19, ground := Ground.phase }, { on := 20, ground := Ground.phase }, { on := 21, ground := Ground.phase }], guard := none }) rfl (fun K hK => ?_) LastReady.nil)
      go_simp
      have hS39 := HC0.out _ hJ37
      refine hK.out _ _ (fun _ => HC0.out _ hJ37) ?_
      clear hK K
      try simp only [Act.put, List.setIfInBounds_toArray, List.set_cons_zero, List.set_cons_succ]
      refine wpLast_take (i := 23) (o := { dst := some 57, op := Op.fieldAddr 62 (Operand.tmp 56) 0, type := 0, pos := "ref.go:46", after := #[{ on := 22, ground := Ground.data }, { on := 0, ground := Ground.phase }, { on := 1, ground := Ground.phase }, { on := 2, ground := Ground.phase }, { on := 3, ground := Ground.phase }, { on := 4, ground := Ground.phase }, { on := 5, ground := Ground.phase }, { on := 6, ground := Ground.phase }, { on := 7, ground := Ground.phase }, { on := 8, ground := Ground.phase }, { on := 9, ground := Ground.phase }, { on := 10, ground := Ground.phase }, { on := 11, ground := Ground.phase }, { on := 12, ground := Ground.phase }, { on := 13, ground := Ground.phase }, { on := 14, ground := Ground.phase }, { on := 15, ground := Ground.phase }, { on := 16, ground := Ground.phase }, { on := 17, ground := Ground.phase }, { on := 18, ground := Ground.phase }, { on := 19, ground := Ground.phase }, { on := 20, ground := Ground.phase }, { on := 21, ground := Ground.phase }], guard := none }) (v := ?vp40) rfl (by kernel_rfl) (by kernel_rfl) (by kernel_rfl) (fun _ _ _ h => h) (by kernel_rfl) (Or.inl ⟨by rfl, ?hp40⟩) (by assumption) ?rp40
      case hp40 => (intro w hSw; (try dsimp only at hSw); go_simp; try with_reducible rfl)
      try simp only [Act.put, List.setIfInBounds_toArray, List.set_cons_zero, List.set_cons_succ]
      refine wpLast_ready (rs := [24]) (by kernel_rfl) (by simp) (LastReady.cons (o := { dst := none, op := Op.store 60 (Operand.tmp 57) (Operand.tmp 55), type := 0, pos := "ref.go:46", after := #[{ on := 23, ground := Ground.data }, { on := 21, ground := Ground.data }, { on := 21, ground := Ground.chain }, { on := 0, ground := Ground.phase }, { on := 1, ground := Ground.phase }, { on := 2, ground := Ground.phase }, { on := 3, ground := Ground.phase }, { on := 4, ground := Ground.phase }, { on := 5, ground := Ground.phase }, { on := 6, ground := Ground.phase }, { on := 7, ground := Ground.phase }, { on := 8, ground := Ground.phase }, { on := 9, ground := Ground.phase }, { on := 10, ground := Ground.phase }, { on := 11, ground := Ground.phase }, { on := 12, ground := Ground.phase }, { on := 13, ground := Ground.phase }, { on := 14, ground := Ground.phase }, { on := 15, ground := Ground.phase }, { on := 16, ground := Ground.phase }, { on := 17, ground := Ground.phase }, { on := 18, ground := Ground.phase }, { on := 19, ground := Ground.phase }, { on := 20, ground := Ground.phase }, { on := 21, ground := Ground.phase }], guard := none }) rfl (fun K hK => ?_) LastReady.nil)
      have kc41 := HC0.out _ hJ37
      have kf41 := HF0.out _ hJ37
      obtain ⟨sa41, sn41, sc41, rfl⟩ := hO37.shape
      go_simp
      refine hK.out _ _ (fun e => absurd rfl e) ?_
      clear hK K
      try simp only [Act.put, List.setIfInBounds_toArray, List.set_cons_zero, List.set_cons_succ]
      refine wpLast_done (by kernel_rfl) ?_ _
      have HFIN := Lib.hid (HEND.out w37 hJ37 _ hO37)
      go_wp2
      all_goals
        go_ret
        exact ⟨rfl, HFIN.out⟩
  · go_simp
    have hJ42 := hJ0.alloc hJ0.size (.cells #[.int .i64 i, .string p, .bool f] 66)
    have hL42 := lit_new W0 ⟨i, p, f⟩
    dsimp only at hL42
    generalize W0.alloc (.cells #[.int .i64 i, .string p, .bool f] 66) = w42 at hJ42 hL42 ⊢
    have hS43 := HC0.out _ hJ42
    refine hK.out _ _ (fun _ => HC0.out _ hJ42) ?_
    clear hK K
    try simp only [Act.put, List.setIfInBounds_toArray, List.set_cons_zero, List.set_cons_succ]
    refine wpLast_ready (rs := [1]) (by kernel_rfl) (by simp) (LastReady.cons (o := { dst := some 35, op := Op.buildSlice 60 0 #[], type := 60, pos := "ref.go:46", after := #[], guard := none }) rfl (fun K hK => ?_) LastReady.nil)
    go_simp
    have hJ44 := hJ42.alloc hJ42.size (.cells #[] 66)
    have hO44 := own_empty w42 hJ42.size
    have hL44 := hL42.alloc (.cells #[] 66)
    have hN44 : (Value.slice (some ⟨w42.heap.size, 0, none⟩) 0 0).ownBlock ≠ some W0.heap.size := fun e => by have := hL42.lt; injection e with e; dsimp only at e; omega
    generalize w42.alloc (.cells #[] 66) = w44 at hJ44 hO44 hL44 ⊢
    have hS45 := HC0.out _ hJ44
    refine hK.out _ _ (fun _ => HC0.out _ hJ44) ?_
    clear hK K
    try simp only [Act.put, List.setIfInBounds_toArray, List.set_cons_zero, List.set_cons_succ]
    refine wpLast_ready (rs := [8]) (by kernel_rfl) (by simp) (LastReady.cons (o := { dst := some 42, op := Op.call { callee := Callee.builtin Builtin.append, args := #[Operand.tmp 35, Operand.tmp 41], argTypes := #[60, 60] }, type := 60, pos := "ref.go:46", after := #[{ on := 1, ground := Ground.data }, { on := 7, ground := Ground.data }], guard := none }) rfl (fun K hK => ?_) LastReady.nil)
    rw [if_pos (by rfl)]
    refine wp_appG W.heap.size hO44 (HTK.out _ hJ44) (by simp; omega) hJ44.size _ _ rfl rfl (by rw [HXT.out]; rfl) ?_
    intro v46 w46 hO46 hg46
    have hJ46 := below_appG hJ44 hO44 hJ44.size hg46
    have hL46 := hL44.grown hg46 hN44
    have hS47 := HC0.out _ hJ46
    refine hK.out _ _ (fun _ => HC0.out _ hJ46) ?_
    clear hK K
    try simp only [Act.put, List.setIfInBounds_toArray, List.set_cons_zero, List.set_cons_succ]
    refine wpLast_ready (rs := [14]) (by kernel_rfl) (by simp) (LastReady.cons (o := { dst := some 48, op := Op.call { callee := Callee.builtin Builtin.append, args := #[Operand.tmp 42, Operand.tmp 47], argTypes := #[60, 60] }, type := 60, pos := "ref.go:46", after := #[{ on := 8, ground := Ground.data }, { on := 13, ground := Ground.data }, { on := 8, ground := Ground.chain }], guard := none }) rfl (fun K hK => ?_) LastReady.nil)
    rw [if_pos (by rfl)]
    refine wp_appG W.heap.size hO46 hL46.cells (by simp; omega) hJ46.size _ _ rfl rfl rfl ?_
    intro v48 w48 hO48 hg48
    have hJ48 := below_appG hJ46 hO46 hJ46.size hg48
    have hS49 := HC0.out _ hJ48
    refine hK.out _ _ (fun _ => HC0.out _ hJ48) ?_
    clear hK K
    try simp only [Act.put, List.setIfInBounds_toArray, List.set_cons_zero, List.set_cons_succ]
    refine wpLast_ready (rs := [21]) (by kernel_rfl) (by simp) (LastReady.cons (o := { dst := some 55, op := Op.call { callee := Callee.builtin Builtin.append, args := #[Operand.tmp 48, Operand.tmp 54], argTypes := #[60, 60] }, type := 60, pos := "ref.go:46", after := #[{ on := 14, ground := Ground.data }, { on := 20, ground := Ground.data }, { on := 14, ground := Ground.chain }], guard := none }) rfl (fun K hK => ?_) LastReady.nil)
    rw [if_pos (by rfl)]
    refine wp_appG W.heap.size hO48 (HDR.out _ hJ48) (by simp; omega) hJ48.size _ _ rfl rfl (by rw [HXD.out]; exact congrArg (fun z => Value.slice z (L.length - k) (cap - k)) HDO.out) ?_
    intro v50 w50 hO50 hg50
    have hJ50 := below_appG hJ48 hO48 hJ48.size hg50
    have hS51 := HC0.out _ hJ50
    refine hK.out _ _ (fun _ => HC0.out _ hJ50) ?_
    clear hK K
    try simp only [Act.put, List.setIfInBounds_toArray, List.set_cons_zero, List.set_cons_succ]
    refine wpLast_ready (rs := [22]) (by kernel_rfl) (by simp) (LastReady.cons (o := { dst := some 56, op := Op.nilCheck (Operand.tmp 34), type := 0, pos := "ref.go:46", after := #[{ on := 0, ground := Ground.data }, { on := 0, ground := Ground.phase }, { on := 1, ground := Ground.phase }, { on := 2, ground := Ground.phase }, { on := 3, ground := Ground.phase }, { on := 4, ground := Ground.phase }, { on := 5, ground := Ground.phase }, { on := 6, ground := Ground.phase }, { on := 7, ground := Ground.phase }, { on := 8, ground := Ground.phase }, { on := 9, ground := Ground.phase }, { on := 10, ground := Ground.phase }, { on := 11, ground := Ground.phase }, { on := 12, ground := Ground.phase }, { on := 13, ground := Ground.phase }, { on := 14, ground := Ground.phase }, { on := 15, ground := Ground.phase }, { on := 16, ground := Ground.phase }, { on := 17, ground := Ground.phase }, { on := 18, ground := Ground.phase }, { on := 19, ground := Ground.phase }, { on := 20, ground := Ground.phase }, { on := 21, ground := Ground.phase }], guard := none }) rfl (fun K hK => ?_) LastReady.nil)
    go_simp
    have hS52 := HC0.out _ hJ50
    refine hK.out _ _ (fun _ => HC0.out _ hJ50) ?_
    clear hK K
    try simp only [Act.put, List.setIfInBounds_toArray, List.set_cons_zero, List.set_cons_succ]
    refine wpLast_take (i := 23) (o := { dst := some 57, op := Op.fieldAddr 62 (Operand.tmp 56) 0, type := 0, pos := "ref.go:46", after := #[{ on := 22, ground := Ground.data }, { on := 0, ground := Ground.phase }, { on := 1, ground := Ground.phase }, { on := 2, ground := Ground.phase }, { on := 3, ground := Ground.phase }, { on := 4, ground := Ground.phase }, { on := 5, ground := Ground.phase }, { on := 6, ground := Ground.phase }, { on := 7, ground := Ground.phase }, { on := 8, ground := Ground.phase }, { on := 9, ground := Ground.phase }, { on := 10, ground := Ground.phase }, { on := 11, ground := Ground.phase }, { on := 12, ground := Ground.phase }, { on := 13, ground := Ground.phase }, { on := 14, ground := Ground.phase }, { on := 15, ground := Ground.phase }, { on := 16, ground := Ground.phase }, { on := 17, ground := Ground.phase }, { on := 18, ground := Ground.phase }, { on := 19, ground := Ground.phase }, { on := 20, ground := Ground.phase }, { on := 21, ground := Ground.phase }], guard := none }) (v := ?vp53) rfl (by kernel_rfl) (by kernel_rfl) (by kernel_rfl) (fun _ _ _ h => h) (by kernel_rfl) (Or.inl ⟨by rfl, ?hp53⟩) (by assumption) ?rp53
    case hp53 => (intro w hSw; (try dsimp only at hSw); go_simp; try with_reducible rfl)
    try simp only [Act.put, List.setIfInBounds_toArray, List.set_cons_zero, List.set_cons_succ]
    refine wpLast_ready (rs := [24]) (by kernel_rfl) (by simp) (LastReady.cons (o := { dst := none, op := Op.store 60 (Operand.tmp 57) (Operand.tmp 55), type := 0, pos := "ref.go:46", after := #[{ on := 23, ground := Ground.data }, { on := 21, ground := Ground.data }, { on := 21, ground := Ground.chain }, { on := 0, ground := Ground.phase }, { on := 1, ground := Ground.phase }, { on := 2, ground := Ground.phase }, { on := 3, ground := Ground.phase }, { on := 4, ground := Ground.phase }, { on := 5, ground := Ground.phase }, { on := 6, ground := Ground.phase }, { on := 7, ground := Ground.phase }, { on := 8, ground := Ground.phase }, { on := 9, ground := Ground.phase }, { on := 10, ground := Ground.phase }, { on := 11, ground := Ground.phase }, { on := 12, ground := Ground.phase }, { on := 13, ground := Ground.phase }, { on := 14, ground := Ground.phase }, { on := 15, ground := Ground.phase }, { on := 16, ground := Ground.phase }, { on := 17, ground := Ground.phase }, { on := 18, ground := Ground.phase }, { on := 19, ground := Ground.phase }, { on := 20, ground := Ground.phase }, { on := 21, ground := Ground.phase }], guard := none }) rfl (fun K hK => ?_) LastReady.nil)
    have kc54 := HC0.out _ hJ50
    have kf54 := HF0.out _ hJ50
    obtain ⟨sa54, sn54, sc54, rfl⟩ := hO50.shape
    go_simp
    refine hK.out _ _ (fun e => absurd rfl e) ?_
    clear hK K
    try simp only [Act.put, List.setIfInBounds_toArray, List.set_cons_zero, List.set_cons_succ]
    refine wpLast_done (by kernel_rfl) ?_ _
    have HFIN := Lib.hid (HEND.out w50 hJ50 _ hO50)
    go_wp2
    all_goals
      go_ret
      exact ⟨rfl, HFIN.out⟩

end Go.Proofs.YtnpgmekgmelamaaGreat
