/-
  What is proved: what the reference's Put and Drop return, whatever comes in, and what is there then.
-/
import Derived.Test.YtnpgmekgmelamaaGreatIxRefP
namespace Go.Proofs.YtnpgmekgmelamaaGreat
open Go.RowKit Go.Shelf Go.Maps

theorem wp_appG0 {o : Oper} {a : Act} {K : Act → World → Prop} {Q : Exit → Act → World → Prop} {w : World} (B : Nat) {v : Value} {ys : List G} (hown : OwnG w B v ys)
    (sl x : Operand) (ho : o.op = .call { callee := .builtin .append, args := #[sl, x], argTypes := #[60, 60] })
    (hs : a.eval sl = v) (hx : a.eval x = .slice none 0 0) (h : K (a.put o.dst v) w) : o.wp Tryz.prog a w K Q := by
  obtain ⟨i0, hi, hz0, hz1, hz2⟩ := info_parts info_glob
  have hrun := run_append_owned_none (P := Tryz.prog) (w := w) B 60 o.type 66 i0 3 Tryz.underlying60 hi v ys.length _ hown
  unfold Oper.wp
  simp [execOp, ho, resolve, invoke, builtin, hs, hx, hrun, Result.andThen]
  exact h

set_option maxRecDepth 100000 in
set_option maxHeartbeats 8000000 in
theorem rput_none {W : World} {o : Nat} {B : Nat} (h : RefAt W o [] B (.slice none 0 0)) (i : Int) (p : ByteArray) (f : Bool) (hE : putE [] i p = 0) (b0 : Nat) (hb0 : b0 ≤ B) :
    Calls Tryz.prog 30 #[.pointer (some ⟨o, 0, none⟩), .int .i64 i, .string p, .bool f] W fun e w' => e = .returned (.int .i64 0) ∧ (∃ v', RefAt w' o [⟨i, p, f⟩] b0 v' ∧ NewRow W v') ∧ OnlyAt o W.heap.size W w' := by
  obtain ⟨hi0, hno, hck, hl2⟩ := putE_ok hE
  have C1 := Lib.hid (rhas_any h List.Pairwise.nil (by simp) i)
  have C2 := Lib.hid (refCheck p W)
  have C3 := Lib.hid (rat_any h (by simp) i)
  rw [hno] at C1
  rw [hck] at C2
  rw [show plc i [] = 0 from rfl] at C3
  have c0 := h.c0
  have hiz : ¬ i < 0 := by omega
  have HC0 : Hid (∀ X, Below W.heap.size W X → X.cell? ⟨o, 0, none⟩ = some (.slice none 0 0)) := Lib.hid (fun X hX => (h.below hX).c0)
  have HF0 : Hid (∀ X, Below W.heap.size W X → X.frozen? ⟨o, 0, none⟩ = false) := Lib.hid (fun X hX => by simp [World.frozen?, (h.below hX).cell])
  have HEND : Hid (∀ X, Below W.heap.size W X → ∀ v', OwnG X W.heap.size v' ([] ++ [⟨i, p, f⟩]) → (∃ v'', RefAt (X.setCell ⟨o, 0, none⟩ v') o [⟨i, p, f⟩] b0 v'' ∧ NewRow W v'') ∧ OnlyAt o W.heap.size W (X.setCell ⟨o, 0, none⟩ v')) := Lib.hid (fun X hX v' hO => by
    obtain ⟨h1, h2⟩ := ref_set h hX hO hb0
    exact ⟨⟨v', h1, fun k hk => (hO.lt k hk).1⟩, h2⟩)
  have hJ0 : Below W.heap.size W W.drew := (Below.refl _ _).drew
  clear h hE hi0 hno hck hb0
  go_enter Tryz.func30, Tryz.ntmps30
  go_wp2_with (first
    | (go_at_call 38; refine C1.out.mono ?_; rintro e w1 ⟨rfl, e1⟩; rw [e1]; clear e1 w1)
    | (go_at_call 66; refine C2.out.mono ?_; rintro e w1 ⟨rfl, e1⟩; rw [e1]; clear e1 w1)
    | (go_at_call 67; refine C3.out.mono ?_; rintro e w1 ⟨rfl, e1⟩; rw [e1]; clear e1 w1))
  refine wp_region_last (S := (fun w' => w'.cell? ⟨o, 0, none⟩ = some (.slice none 0 0))) (z := 24) (by kernel_rfl) ?_ (fun hHeld => ?_)
  · exact HC0.out _ hJ0
  generalize W.drew = W0 at hHeld hJ0 ⊢
  refine wpLast_take (i := 0) (o := { dst := some 34, op := Op.move (Operand.tmp 0), type := 51, pos := "ref.go:46", after := #[], guard := none }) (v := ?vn1) rfl (by kernel_rfl) (by kernel_rfl) (by kernel_rfl) (fun _ _ _ h => h) (by kernel_rfl) (Or.inl ⟨by rfl, ?hn1⟩) (by assumption) ?rn1
  case hn1 => (intro w hSw; (try dsimp only at hSw); go_simp; try with_reducible rfl)
  try simp only [Act.put, List.setIfInBounds_toArray, List.set_cons_zero, List.set_cons_succ]
  refine wpLast_take (i := 2) (o := { dst := some 36, op := Op.move (Operand.tmp 0), type := 51, pos := "ref.go:46", after := #[], guard := none }) (v := ?vn2) rfl (by kernel_rfl) (by kernel_rfl) (by kernel_rfl) (fun _ _ _ h => h) (by kernel_rfl) (Or.inl ⟨by rfl, ?hn2⟩) (by assumption) ?rn2
  case hn2 => (intro w hSw; (try dsimp only at hSw); go_simp; try with_reducible rfl)
  try simp only [Act.put, List.setIfInBounds_toArray, List.set_cons_zero, List.set_cons_succ]
  refine wpLast_take (i := 3) (o := { dst := some 37, op := Op.nilCheck (Operand.tmp 36), type := 0, pos := "ref.go:46", after := #[{ on := 2, ground := Ground.data }], guard := none }) (v := ?vn3) rfl (by kernel_rfl) (by kernel_rfl) (by kernel_rfl) (fun _ _ _ h => h) (by kernel_rfl) (Or.inl ⟨by rfl, ?hn3⟩) (by assumption) ?rn3
  case hn3 => (intro w hSw; (try dsimp only at hSw); go_simp; try with_reducible rfl)
  try simp only [Act.put, List.setIfInBounds_toArray, List.set_cons_zero, List.set_cons_succ]
  refine wpLast_take (i := 4) (o := { dst := some 38, op := Op.fieldAddr 62 (Operand.tmp 37) 0, type := 0, pos := "ref.go:46", after := #[{ on := 3, ground := Ground.data }], guard := none }) (v := ?vn4) rfl (by kernel_rfl) (by kernel_rfl) (by kernel_rfl) (fun _ _ _ h => h) (by kernel_rfl) (Or.inl ⟨by rfl, ?hn4⟩) (by assumption) ?rn4
  case hn4 => (intro w hSw; (try dsimp only at hSw); go_simp; try with_reducible rfl)
  try simp only [Act.put, List.setIfInBounds_toArray, List.set_cons_zero, List.set_cons_succ]
  refine wpLast_take (i := 5) (o := { dst := some 39, op := Op.load 60 (Operand.tmp 38), type := 60, pos := "ref.go:46", after := #[{ on := 4, ground := Ground.data }], guard := none }) (v := ?vn5) rfl (by kernel_rfl) (by kernel_rfl) (by kernel_rfl) (fun _ _ _ h => h) (by kernel_rfl) (Or.inl ⟨by rfl, ?hn5⟩) (by assumption) ?rn5
  case hn5 => (intro w hSw; (try dsimp only at hSw); go_simp; try with_reducible rfl)
  try simp only [Act.put, List.setIfInBounds_toArray, List.set_cons_zero, List.set_cons_succ]
  refine wpLast_take (i := 6) (o := { dst := some 40, op := Op.move (Operand.tmp 10), type := 3, pos := "ref.go:46", after := #[], guard := none }) (v := ?vn6) rfl (by kernel_rfl) (by kernel_rfl) (by kernel_rfl) (fun _ _ _ h => h) (by kernel_rfl) (Or.inl ⟨by rfl, ?hn6⟩) (by assumption) ?rn6
  case hn6 => (intro w hSw; (try dsimp only at hSw); go_simp; try with_reducible rfl)
  try simp only [Act.put, List.setIfInBounds_toArray, List.set_cons_zero, List.set_cons_succ]
  refine wpLast_take (i := 7) (o := { dst := some 41, op := Op.slice 60 (Operand.tmp 39) none (some (Operand.tmp 40)) none, type := 60, pos := "ref.go:46", after := #[{ on := 5, ground := Ground.data }, { on := 6, ground := Ground.data }], guard := none }) (v := ?vn7) rfl (by kernel_rfl) (by kernel_rfl) (by kernel_rfl) (fun _ _ _ h => h) (by kernel_rfl) (Or.inl ⟨by rfl, ?hn7⟩) (by assumption) ?rn7
  case hn7 => (intro w hSw; (try dsimp only at hSw); go_simp; try with_reducible rfl)
  try simp only [Act.put, List.setIfInBounds_toArray, List.set_cons_zero, List.set_cons_succ]
  refine wpLast_take (i := 9) (o := { dst := some 43, op := Op.move (Operand.tmp 1), type := 3, pos := "ref.go:46", after := #[], guard := none }) (v := ?vn8) rfl (by kernel_rfl) (by kernel_rfl) (by kernel_rfl) (fun _ _ _ h => h) (by kernel_rfl) (Or.inl ⟨by rfl, ?hn8⟩) (by assumption) ?rn8
  case hn8 => (intro w hSw; (try dsimp only at hSw); go_simp; try with_reducible rfl)
  try simp only [Act.put, List.setIfInBounds_toArray, List.set_cons_zero, List.set_cons_succ]
  refine wpLast_take (i := 10) (o := { dst := some 44, op := Op.move (Operand.tmp 2), type := 9, pos := "ref.go:46", after := #[], guard := none }) (v := ?vn9) rfl (by kernel_rfl) (by kernel_rfl) (by kernel_rfl) (fun _ _ _ h => h) (by kernel_rfl) (Or.inl ⟨by rfl, ?hn9⟩) (by assumption) ?rn9
  case hn9 => (intro w hSw; (try dsimp only at hSw); go_simp; try with_reducible rfl)
  try simp only [Act.put, List.setIfInBounds_toArray, List.set_cons_zero, List.set_cons_succ]
  refine wpLast_take (i := 11) (o := { dst := some 45, op := Op.move (Operand.tmp 3), type := 4, pos := "ref.go:46", after := #[], guard := none }) (v := ?vn10) rfl (by kernel_rfl) (by kernel_rfl) (by kernel_rfl) (fun _ _ _ h => h) (by kernel_rfl) (Or.inl ⟨by rfl, ?hn10⟩) (by assumption) ?rn10
  case hn10 => (intro w hSw; (try dsimp only at hSw); go_simp; try with_reducible rfl)
  try simp only [Act.put, List.setIfInBounds_toArray, List.set_cons_zero, List.set_cons_succ]
  refine wpLast_take (i := 12) (o := { dst := some 46, op := Op.build 66 #[(0, Operand.tmp 43), (1, Operand.tmp 44), (2, Operand.tmp 45)], type := 66, pos := "ref.go:46", after := #[{ on := 9, ground := Ground.data }, { on := 10, ground := Ground.data }, { on := 11, ground := Ground.data }], guard := none }) (v := ?vn11) rfl (by kernel_rfl) (by kernel_rfl) (by kernel_rfl) (fun _ _ _ h => h) (by kernel_rfl) (Or.inl ⟨by rfl, ?hn11⟩) (by assumption) ?rn11
  case hn11 => (intro w hSw; (try dsimp only at hSw); go_simp; try with_reducible rfl)
  try simp only [Act.put, List.setIfInBounds_toArray, List.set_cons_zero, List.set_cons_succ]
  refine wpLast_take (i := 15) (o := { dst := some 49, op := Op.move (Operand.tmp 0), type := 51, pos := "ref.go:46", after := #[], guard := none }) (v := ?vn12) rfl (by kernel_rfl) (by kernel_rfl) (by kernel_rfl) (fun _ _ _ h => h) (by kernel_rfl) (Or.inl ⟨by rfl, ?hn12⟩) (by assumption) ?rn12
  case hn12 => (intro w hSw; (try dsimp only at hSw); go_simp; try with_reducible rfl)
  try simp only [Act.put, List.setIfInBounds_toArray, List.set_cons_zero, List.set_cons_succ]
  refine wpLast_take (i := 16) (o := { dst := some 50, op := Op.nilCheck (Operand.tmp 49), type := 0, pos := "ref.go:46", after := #[{ on := 15, ground := Ground.data }], guard := none }) (v := ?vn13) rfl (by kernel_rfl) (by kernel_rfl) (by kernel_rfl) (fun _ _ _ h => h) (by kernel_rfl) (Or.inl ⟨by rfl, ?hn13⟩) (by assumption) ?rn13
  case hn13 => (intro w hSw; (try dsimp only at hSw); go_simp; try with_reducible rfl)
  try simp only [Act.put, List.setIfInBounds_toArray, List.set_cons_zero, List.set_cons_succ]
  refine wpLast_take (i := 17) (o := { dst := some 51, op := Op.fieldAddr 62 (Operand.tmp 50) 0, type := 0, pos := "ref.go:46", after := #[{ on := 16, ground := Ground.data }], guard := none }) (v := ?vn14) rfl (by kernel_rfl) (by kernel_rfl) (by kernel_rfl) (fun _ _ _ h => h) (by kernel_rfl) (Or.inl ⟨by rfl, ?hn14⟩) (by assumption) ?rn14
  case hn14 => (intro w hSw; (try dsimp only at hSw); go_simp; try with_reducible rfl)
  try simp only [Act.put, List.setIfInBounds_toArray, List.set_cons_zero, List.set_cons_succ]
  refine wpLast_take (i := 18) (o := { dst := some 52, op := Op.load 60 (Operand.tmp 51), type := 60, pos := "ref.go:46", after := #[{ on := 17, ground := Ground.data }], guard := none }) (v := ?vn15) rfl (by kernel_rfl) (by kernel_rfl) (by kernel_rfl) (fun _ _ _ h => h) (by kernel_rfl) (Or.inl ⟨by rfl, ?hn15⟩) (by assumption) ?rn15
  case hn15 => (intro w hSw; (try dsimp only at hSw); go_simp; try with_reducible rfl)
  try simp only [Act.put, List.setIfInBounds_toArray, List.set_cons_zero, List.set_cons_succ]
  refine wpLast_take (i := 19) (o := { dst := some 53, op := Op.move (Operand.tmp 10), type := 3, pos := "ref.go:46", after := #[], guard := none }) (v := ?vn16) rfl (by kernel_rfl) (by kernel_rfl) (by kernel_rfl) (fun _ _ _ h => h) (by kernel_rfl) (Or.inl ⟨by rfl, ?hn16⟩) (by assumption) ?rn16
  case hn16 => (intro w hSw; (try dsimp only at hSw); go_simp; try with_reducible rfl)
  try simp only [Act.put, List.setIfInBounds_toArray, List.set_cons_zero, List.set_cons_succ]
  refine wpLast_take (i := 20) (o := { dst := some 54, op := Op.slice 60 (Operand.tmp 52) (some (Operand.tmp 53)) none none, type := 60, pos := "ref.go:46", after := #[{ on := 18, ground := Ground.data }, { on := 19, ground := Ground.data }], guard := none }) (v := ?vn17) rfl (by kernel_rfl) (by kernel_rfl) (by kernel_rfl) (fun _ _ _ h => h) (by kernel_rfl) (Or.inl ⟨by rfl, ?hn17⟩) (by assumption) ?rn17
  case hn17 => (intro w hSw; (try dsimp only at hSw); go_simp; try with_reducible rfl)
  try simp only [Act.put, List.setIfInBounds_toArray, List.set_cons_zero, List.set_cons_succ]
  refine wpLast_ready (rs := [1, 13]) (by kernel_rfl) (by simp) (LastReady.cons (o := { dst := some 35, op := Op.buildSlice 60 0 #[], type := 60, pos := "ref.go:46", after := #[], guard := none }) rfl (fun K hK => ?_) (LastReady.cons (o := { dst := some 47, op := Op.buildSlice 60 1 #[(0, Operand.tmp 46)], type := 60, pos := "ref.go:46", after := #[{ on := 12, ground := Ground.data }], guard := none }) rfl (fun K hK => ?_) LastReady.nil))
  · go_simp
    have hJ18 := hJ0.alloc hJ0.size (.cells #[] 66)
    have hO18 := own_empty W0 hJ0.size
    generalize W0.alloc (.cells #[] 66) = w18 at hJ18 hO18 ⊢
    have hS19 := HC0.out _ hJ18
    refine hK.out _ _ (fun _ => HC0.out _ hJ18) ?_
    clear hK K
    try simp only [Act.put, List.setIfInBounds_toArray, List.set_cons_zero, List.set_cons_succ]
    refine wpLast_ready (rs := [8, 13]) (by kernel_rfl) (by simp) (LastReady.cons (o := { dst := some 42, op := Op.call { callee := Callee.builtin Builtin.append, args := #[Operand.tmp 35, Operand.tmp 41], argTypes := #[60, 60] }, type := 60, pos := "ref.go:46", after := #[{ on := 1, ground := Ground.data }, { on := 7, ground := Ground.data }], guard := none }) rfl (fun K hK => ?_) (LastReady.cons (o := { dst := some 47, op := Op.buildSlice 60 1 #[(0, Operand.tmp 46)], type := 60, pos := "ref.go:46", after := #[{ on := 12, ground := Ground.data }], guard := none }) rfl (fun K hK => ?_) LastReady.nil))
    · rw [if_pos (by rfl)]
      refine wp_appG0 W.heap.size hO18 _ _ rfl rfl rfl ?_
      have hS21 := HC0.out _ hJ18
      refine hK.out _ _ (fun _ => HC0.out _ hJ18) ?_
      clear hK K
      try simp only [Act.put, List.setIfInBounds_toArray, List.set_cons_zero, List.set_cons_succ]
      refine wpLast_ready (rs := [13]) (by kernel_rfl) (by simp) (LastReady.cons (o := { dst := some 47, op := Op.buildSlice 60 1 #[(0, Operand.tmp 46)], type := 60, pos := "ref.go:46", after := #[{ on := 12, ground := Ground.data }], guard := none }) rfl (fun K hK => ?_) LastReady.nil)
      go_simp
      have hJ22 := hJ18.alloc hJ18.size (.cells #[.int .i64 i, .string p, .bool f] 66)
      have hL22 := lit_new w18 ⟨i, p, f⟩
      have hO22 := hO18.alloc (.cells #[.int .i64 i, .string p, .bool f] 66)
      have hN22 := own_ne hO18
      dsimp only at hL22
      generalize w18.alloc (.cells #[.int .i64 i, .string p, .bool f] 66) = w22 at hJ22 hL22 hO22 ⊢
      have hS23 := HC0.out _ hJ22
      refine hK.out _ _ (fun _ => HC0.out _ hJ22) ?_
      clear hK K
      try simp only [Act.put, List.setIfInBounds_toArray, List.set_cons_zero, List.set_cons_succ]
      refine wpLast_ready (rs := [14]) (by kernel_rfl) (by simp) (LastReady.cons (o := { dst := some 48, op := Op.call { callee := Callee.builtin Builtin.append, args := #[Operand.tmp 42, Operand.tmp 47], argTypes := #[60, 60] }, type := 60, pos := "ref.go:46", after := #[{ on := 8, ground := Ground.data }, { on := 13, ground := Ground.data }, { on := 8, ground := Ground.chain }], guard := none }) rfl (fun K hK => ?_) LastReady.nil)
      rw [if_pos (by rfl)]
      refine wp_appG W.heap.size hO22 hL22.cells (by simp) hJ22.size _ _ rfl rfl rfl ?_
      intro v24 w24 hO24 hg24
      have hJ24 := below_appG hJ22 hO22 hJ22.size hg24
      have hS25 := HC0.out _ hJ24
      refine hK.out _ _ (fun _ => HC0.out _ hJ24) ?_
      clear hK K
      try simp only [Act.put, List.setIfInBounds_toArray, List.set_cons_zero, List.set_cons_succ]
      refine wpLast_ready (rs := [21]) (by kernel_rfl) (by simp) (LastReady.cons (o := { dst := some 55, op := Op.call { callee := Callee.builtin Builtin.append, args := #[Operand.tmp 48, Operand.tmp 54], argTypes := #[60, 60] }, type := 60, pos := "ref.go:46", after := #[{ on := 14, ground := Ground.data }, { on := 20, ground := Ground.data }, { on := 14, ground := Ground.chain }], guard := none }) rfl (fun K hK => ?_) LastReady.nil)
      rw [if_pos (by rfl)]
      refine wp_appG0 W.heap.size hO24 _ _ rfl rfl rfl ?_
      have hS27 := HC0.out _ hJ24
      refine hK.out _ _ (fun _ => HC0.out _ hJ24) ?_
      clear hK K
      try simp only [Act.put, List.setIfInBounds_toArray, List.set_cons_zero, List.set_cons_succ]
      refine wpLast_ready (rs := [22]) (by kernel_rfl) (by simp) (LastReady.cons (o := { dst := some 56, op := Op.nilCheck (Operand.tmp 34), type := 0, pos := "ref.go:46", after := #[{ on := 0, ground := Ground.data }, { on := 0, ground := Ground.phase }, { on := 1, ground := Ground.phase }, { on := 2, ground := Ground.phase }, { on := 3, ground := Ground.phase }, { on := 4, ground := Ground.phase }, { on := 5, ground := Ground.phase }, { on := 6, ground := Ground.phase }, { on := 7, ground := Ground.phase }, { on := 8, ground := Ground.phase }, { on := 9, ground := Ground.phase }, { on := 10, ground := Ground.phase }, { on := 11, ground := Ground.phase }, { on := 12, ground := Ground.phase }, { on := 13, ground := Ground.phase }, { on := 14, ground := Ground.phase }, { on := 15, ground := Ground.phase }, { on := 16, ground := Ground.phase }, { on := 17, ground := Ground.phase }, { on := 18, ground := Ground.phase }, { on := 19, ground := Ground.phase }, { on := 20, ground := Ground.phase }, { on := 21, ground := Ground.phase }], guard := none }) rfl (fun K hK => ?_) LastReady.nil)
      go_simp
      have hS28 := HC0.out _ hJ24
      refine hK.out _ _ (fun _ => HC0.out _ hJ24) ?_
      clear hK K
      try simp only [Act.put, List.setIfInBounds_toArray, List.set_cons_zero, List.set_cons_succ]
      refine wpLast_take (i := 23) (o := { dst := some 57, op := Op.fieldAddr 62 (Operand.tmp 56) 0, type := 0, pos := "ref.go:46", after := #[{ on := 22, ground := Ground.data }, { on := 0, ground := Ground.phase }, { on := 1, ground := Ground.phase }, { on := 2, ground := Ground.phase }, { on := 3, ground := Ground.phase }, { on := 4, ground := Ground.phase }, { on := 5, ground := Ground.phase }, { on := 6, ground := Ground.phase }, { on := 7, ground := Ground.phase }, { on := 8, ground := Ground.phase }, { on := 9, ground := Ground.phase }, { on := 10, ground := Ground.phase }, { on := 11, ground := Ground.phase }, { on := 12, ground := Ground.phase }, { on := 13, ground := Ground.phase }, { on := 14, ground := Ground.phase }, { on := 15, ground := Ground.phase }, { on := 16, ground := Ground.phase }, { on := 17, ground := Ground.phase }, { on := 18, ground := Ground.phase }, { on := 19, ground := Ground.phase }, { on := 20, ground := Ground.phase }, { on := 21, ground := Ground.phase }], guard := none }) (v := ?vn29) rfl (by kernel_rfl) (by kernel_rfl) (by kernel_rfl) (fun _ _ _ h => h) (by kernel_rfl) (Or.inl ⟨by rfl, ?hn29⟩) (by assumption) ?rn29
      case hn29 => (intro w hSw; (try dsimp only at hSw); go_simp; try with_reducible rfl)
      try simp only [Act.put, List.setIfInBounds_toArray, List.set_cons_zero, List.set_cons_succ]
      refine wpLast_ready (rs := [24]) (by kernel_rfl) (by simp) (LastReady.cons (o := { dst := none, op := Op.store 60 (Operand.tmp 57) (Operand.tmp 55), type := 0, pos := "ref.go:46", after := #[{ on := 23, ground := Ground.data }, { on := 21, ground := Ground.data }, { on := 21, ground := Ground.chain }, { on := 0, ground := Ground.phase }, { on := 1, ground := Ground.phase }, { on := 2, ground := Ground.phase }, { on := 3, ground := Ground.phase }, { on := 4, ground := Ground.phase }, { on := 5, ground := Ground.phase }, { on := 6, ground := Ground.phase }, { on := 7, ground := Ground.phase }, { on := 8, ground := Ground.phase }, { on := 9, ground := Ground.phase }, { on := 10, ground := Ground.phase }, { on := 11, ground := Ground.phase }, { on := 12, ground := Ground.phase }, { on := 13, ground := Ground.phase }, { on := 14, ground := Ground.phase }, { on := 15, ground := Ground.phase }, { on := 16, ground := Ground.phase }, { on := 17, ground := Ground.phase }, { on := 18, ground := Ground.phase }, { on := 19, ground := Ground.phase }, { on := 20, ground := Ground.phase }, { on := 21, ground := Ground.phase }], guard := none }) rfl (fun K hK => ?_) LastReady.nil)
      have kc30 := HC0.out _ hJ24
      have kf30 := HF0.out _ hJ24
      obtain ⟨sa30, sn30, sc30, rfl⟩ := hO24.shape
      go_simp
      refine hK.out _ _ (fun e => absurd rfl e) ?_
      clear hK K
      try simp only [Act.put, List.setIfInBounds_toArray, List.set_cons_zero, List.set_cons_succ]
      refine wpLast_done (by kernel_rfl) ?_ _
      have HFIN := Lib.hid (HEND.out w24 hJ24 _ hO24)
      go_wp2
      all_goals
        go_ret
        exact ⟨rfl, HFIN.out⟩
    · go_simp
      have hJ31 := hJ18.alloc hJ18.size (.cells #[.int .i64 i, .string p, .bool f] 66)
      have hL31 := lit_new w18 ⟨i, p, f⟩
      have hO31 := hO18.alloc (.cells #[.int .i64 i, .string p, .bool f] 66)
      have hN31 := own_ne hO18
      dsimp only at hL31
      generalize w18.alloc (.cells #[.int .i64 i, .string p, .bool f] 66) = w31 at hJ31 hL31 hO31 ⊢
      have hS32 := HC0.out _ hJ31
      refine hK.out _ _ (fun _ => HC0.out _ hJ31) ?_
      clear hK K
      try simp only [Act.put, List.setIfInBounds_toArray, List.set_cons_zero, List.set_cons_succ]
      refine wpLast_ready (rs := [8]) (by kernel_rfl) (by simp) (LastReady.cons (o := { dst := some 42, op := Op.call { callee := Callee.builtin Builtin.append, args := #[Operand.tmp 35, Operand.tmp 41], argTypes := #[60, 60] }, type := 60, pos := "ref.go:46", after := #[{ on := 1, ground := Ground.data }, { on := 7, ground := Ground.data }], guard := none }) rfl (fun K hK => ?_) LastReady.nil)
      rw [if_pos (by rfl)]
      refine wp_appG0 W.heap.size hO31 _ _ rfl rfl rfl ?_
      have hS34 := HC0.out _ hJ31
      refine hK.out _ _ (fun _ => HC0.out _ hJ31) ?_
      clear hK K
      try simp only [Act.put, List.setIfInBounds_toArray, List.set_cons_zero, List.set_cons_succ]
      refine wpLast_ready (rs := [14]) (by kernel_rfl) (by simp) (LastReady.cons (o := { dst := some 48, op := Op.call { callee := Callee.builtin Builtin.append, args := #[Operand.tmp 42, Operand.tmp 47], argTypes := #[60, 60] }, type := 60, pos := "ref.go:46", after := #[{ on := 8, ground := Ground.data }, { on := 13, ground := Ground.data }, { on := 8, ground := Ground.chain }], guard := none }) rfl (fun K hK => ?_) LastReady.nil)
      rw [if_pos (by rfl)]
      refine wp_appG W.heap.size hO31 hL31.cells (by simp) hJ31.size _ _ rfl rfl rfl ?_
      intro v35 w35 hO35 hg35
      have hJ35 := below_appG hJ31 hO31 hJ31.size hg35
      have hS36 := HC0.out _ hJ35
      refine hK.out _ _ (fun _ => HC0.out _ hJ35) ?_
      clear hK K
      try simp only [Act.put, List.setIfInBounds_toArray, List.set_cons_zero, List.set_cons_succ]
      refine wpLast_ready (rs := [21]) (by kernel_rfl) (by simp) (LastReady.cons (o := { dst := some 55, op := Op.call { callee := Callee.builtin Builtin.append, args := #[Operand.tmp 48, Operand.tmp 54], argTypes := #[60, 60] }, type := 60, pos := "ref.go:46", after := #[{ on := 14, ground := Ground.data }, { on := 20, ground := Ground.data }, { on := 14, ground := Ground.chain }], guard := none }) rfl (fun K hK => ?_) LastReady.nil)
      rw [if_pos (by rfl)]
      refine wp_appG0 W.heap.size hO35 _ _ rfl rfl rfl ?_
      have hS38 := HC0.out _ hJ35
      refine hK.out _ _ (fun _ => HC0.out _ hJ35) ?_
      clear hK K
      try simp only [Act.put, List.setIfInBounds_toArray, List.set_cons_zero, List.set_cons_succ]
      refine wpLast_ready (rs := [22]) (by kernel_rfl) (by simp) (LastReady.cons (o := { dst := some 56, op := Op.nilCheck (Operand.tmp 34), type := 0, pos := "ref.go:46", after := #[{ on := 0, ground := Ground.data }, { on := 0, ground := Ground.phase }, { on := 1, ground := Ground.phase }, { on := 2, ground := Ground.phase }, { on := 3, ground := Ground.phase }, { on := 4, ground := Ground.phase }, { on := 5, ground := Ground.phase }, { on := 6, ground := Ground.phase }, { on := 7, ground := Ground.phase }, { on := 8, ground := Ground.phase }, { on := 9, ground := Ground.phase }, { on := 10, ground := Ground.phase }, { on := 11, ground := Ground.phase }, { on := 12, ground := Ground.phase }, { on := 13, ground := Ground.phase }, { on := 14, ground := Ground.phase }, { on := 15, ground := Ground.phase }, { on := 16, ground := Ground.phase }, { on := 17, ground := Ground.phase }, { on := 18, ground := Ground.phase }, { on := 19, ground := Ground.phase }, { on := 20, ground := Ground.phase }, { on := 21, ground := Ground.phase }], guard := none }) rfl (fun K hK => ?_) LastReady.nil)
      go_simp
      have hS39 := HC0.out _ hJ35
      refine hK.out _ _ (fun _ => HC0.out _ hJ35) ?_
      clear hK K
      try simp only [Act.put, List.setIfInBounds_toArray, List.set_cons_zero, List.set_cons_succ]
      refine wpLast_take (i := 23) (o := { dst := some 57, op := Op.fieldAddr 62 (Operand.tmp 56) 0, type := 0, pos := "ref.go:46", after := #[{ on := 22, ground := Ground.data }, { on := 0, ground := Ground.phase }, { on := 1, ground := Ground.phase }, { on := 2, ground := Ground.phase }, { on := 3, ground := Ground.phase }, { on := 4, ground := Ground.phase }, { on := 5, ground := Ground.phase }, { on := 6, ground := Ground.phase }, { on := 7, ground := Ground.phase }, { on := 8, ground := Ground.phase }, { on := 9, ground := Ground.phase }, { on := 10, ground := Ground.phase }, { on := 11, ground := Ground.phase }, { on := 12, ground := Ground.phase }, { on := 13, ground := Ground.phase }, { on := 14, ground := Ground.phase }, { on := 15, ground := Ground.phase }, { on := 16, ground := Ground.phase }, { on := 17, ground := Ground.phase }, { on := 18, ground := Ground.phase }, { on := 19, ground := Ground.phase }, { on := 20, ground := Ground.phase }, { on := 21, ground := Ground.phase }], guard := none }) (v := ?vn40) rfl (by kernel_rfl) (by kernel_rfl) (by kernel_rfl) (fun _ _ _ h => h) (by kernel_rfl) (Or.inl ⟨by rfl, ?hn40⟩) (by assumption) ?rn40
      case hn40 => (intro w hSw; (try dsimp only at hSw); go_simp; try with_reducible rfl)
      try simp only [Act.put, List.setIfInBounds_toArray, List.set_cons_zero, List.set_cons_succ]
      refine wpLast_ready (rs := [24]) (by kernel_rfl) (by simp) (LastReady.cons (o := { dst := none, op := Op.store 60 (Operand.tmp 57) (Operand.tmp 55), type := 0, pos := "ref.go:46", after := #[{ on := 23, ground := Ground.data }, { on := 21, ground := Ground.data }, { on := 21, ground := Ground.chain }, { on := 0, ground := Ground.phase }, { on := 1, ground := Ground.phase }, { on := 2, ground := Ground.phase }, { on := 3, ground := Ground.phase }, { on := 4, ground := Ground.phase }, { on := 5, ground := Ground.phase }, { on := 6, ground := Ground.phase }, { on := 7, ground := Ground.phase }, { on := 8, ground := Ground.phase }, { on := 9, ground := Ground.phase }, { on := 10, ground := Ground.phase }, { on := 11, ground := Ground.phase }, { on := 12, ground := Ground.phase }, { on := 13, ground := Ground.phase }, { on := 14, ground := Ground.phase }, { on := 15, ground := Ground.phase }, { on := 16, ground := Ground.phase }, { on := 17, ground := Ground.phase }, { on := 18, ground := Ground.phase }, { on := 19, ground := Ground.phase }, { on := 20, ground := Ground.phase }, { on := 21, ground := Ground.phase }], guard := none }) rfl (fun K hK => ?_) LastReady.nil)
      have kc41 := HC0.out _ hJ35
      have kf41 := HF0.out _ hJ35
      obtain ⟨sa41, sn41, sc41, rfl⟩ := hO35.shape
      go_simp
      refine hK.out _ _ (fun e => absurd rfl e) ?_
      clear hK K
      try simp only [Act.put, List.setIfInBounds_toArray, List.set_cons_zero, List.set_cons_succ]
      refine wpLast_done (by kernel_rfl) ?_ _
      have HFIN := Lib.hid (HEND.out w35 hJ35 _ hO35)
      go_wp2
      all_goals
        go_ret
        exact ⟨rfl, HFIN.out⟩
  · go_simp
    have hJ42 := hJ0.alloc hJ0.size (.cells #[.int .i64 i, .string p, .bool f] 66)
    have hL42 := lit_new W0 ⟨i, p, f⟩
    dsimp only at hL42
    generalize W0.alloc (.cells #[.int .i64 i, .string p, .bool f] 66) = w42 at hJ42 hL42 ⊢
    have hS43 := HC0.out _ hJ42
    refine hK.out _ _ (fun _ => HC0.out _ hJ42) ?_
    clear hK K
    try simp only [Act.put, List.setIfInBounds_toArray, List.set_cons_zero, List.set_cons_succ]
    refine wpLast_ready (rs := [1]) (by kernel_rfl) (by simp) (LastReady.cons (o := { dst := some 35, op := Op.buildSlice 60 0 #[], type := 60, pos := "ref.go:46", after := #[], guard := none }) rfl (fun K hK => ?_) LastReady.nil)
    go_simp
    have hJ44 := hJ42.alloc hJ42.size (.cells #[] 66)
    have hO44 := own_empty w42 hJ42.size
    have hL44 := hL42.alloc (.cells #[] 66)
    have hN44 : (Value.slice (some ⟨w42.heap.size, 0, none⟩) 0 0).ownBlock ≠ some W0.heap.size := fun e => by have := hL42.lt; injection e with e; dsimp only at e; omega
    generalize w42.alloc (.cells #[] 66) = w44 at hJ44 hO44 hL44 ⊢
    have hS45 := HC0.out _ hJ44
    refine hK.out _ _ (fun _ => HC0.out _ hJ44) ?_
    clear hK K
    try simp only [Act.put, List.setIfInBounds_toArray, List.set_cons_zero, List.set_cons_succ]
    refine wpLast_ready (rs := [8]) (by kernel_rfl) (by simp) (LastReady.cons (o := { dst := some 42, op := Op.call { callee := Callee.builtin Builtin.append, args := #[Operand.tmp 35, Operand.tmp 41], argTypes := #[60, 60] }, type := 60, pos := "ref.go:46", after := #[{ on := 1, ground := Ground.data }, { on := 7, ground := Ground.data }], guard := none }) rfl (fun K hK => ?_) LastReady.nil)
    rw [if_pos (by rfl)]
    refine wp_appG0 W.heap.size hO44 _ _ rfl rfl rfl ?_
    have hS47 := HC0.out _ hJ44
    refine hK.out _ _ (fun _ => HC0.out _ hJ44) ?_
    clear hK K
    try simp only [Act.put, List.setIfInBounds_toArray, List.set_cons_zero, List.set_cons_succ]
    refine wpLast_ready (rs := [14]) (by kernel_rfl) (by simp) (LastReady.cons (o := { dst := some 48, op := Op.call { callee := Callee.builtin Builtin.append, args := #[Operand.tmp 42, Operand.tmp 47], argTypes := #[60, 60] }, type := 60, pos := "ref.go:46", after := #[{ on := 8, ground := Ground.data }, { on := 13, ground := Ground.data }, { on := 8, ground := Ground.chain }], guard := none }) rfl (fun K hK => ?_) LastReady.nil)
    rw [if_pos (by rfl)]
    refine wp_appG W.heap.size hO44 hL44.cells (by simp) hJ44.size _ _ rfl rfl rfl ?_
    intro v48 w48 hO48 hg48
    have hJ48 := below_appG hJ44 hO44 hJ44.size hg48
    have hS49 := HC0.out _ hJ48
    refine hK.out _ _ (fun _ => HC0.out _ hJ48) ?_
    clear hK K
    try simp only [Act.put, List.setIfInBounds_toArray, List.set_cons_zero, List.set_cons_succ]
    refine wpLast_ready (rs := [21]) (by kernel_rfl) (by simp) (LastReady.cons (o := { dst := some 55, op := Op.call { callee := Callee.builtin Builtin.append, args := #[Operand.tmp 48, Operand.tmp 54], argTypes := #[60, 60] }, type := 60, pos := "ref.go:46", after := #[{ on := 14, ground := Ground.data }, { on := 20, ground := Ground.data }, { on := 14, ground := Ground.chain }], guard := none }) rfl (fun K hK => ?_) LastReady.nil)
    rw [if_pos (by rfl)]
    refine wp_appG0 W.heap.size hO48 _ _ rfl rfl rfl ?_
    have hS51 := HC0.out _ hJ48
    refine hK.out _ _ (fun _ => HC0.out _ hJ48) ?_
    clear hK K
    try simp only [Act.put, List.setIfInBounds_toArray, List.set_cons_zero, List.set_cons_succ]
    refine wpLast_ready (rs := [22]) (by kernel_rfl) (by simp) (LastReady.cons (o := { dst := some 56, op := Op.nilCheck (Operand.tmp 34), type := 0, pos := "ref.go:46", after := #[{ on := 0, ground := Ground.data }, { on := 0, ground := Ground.phase }, { on := 1, ground := Ground.phase }, { on := 2, ground := Ground.phase }, { on := 3, ground := Ground.phase }, { on := 4, ground := Ground.phase }, { on := 5, ground := Ground.phase }, { on := 6, ground := Ground.phase }, { on := 7, ground := Ground.phase }, { on := 8, ground := Ground.phase }, { on := 9, ground := Ground.phase }, { on := 10, ground := Ground.phase }, { on := 11, ground := Ground.phase }, { on := 12, ground := Ground.phase }, { on := 13, ground := Ground.phase }, { on := 14, ground := Ground.phase }, { on := 15, ground := Ground.phase }, { on := 16, ground := Ground.phase }, { on := 17, ground := Ground.phase }, { on := 18, ground := Ground.phase }, { on := 19, ground := Ground.phase }, { on := 20, ground := Ground.phase }, { on := 21, ground := Ground.phase }], guard := none }) rfl (fun K hK => ?_) LastReady.nil)
    go_simp
    have hS52 := HC0.out _ hJ48
    refine hK.out _ _ (fun _ => HC0.out _ hJ48) ?_
    clear hK K
    try simp only [Act.put, List.setIfInBounds_toArray, List.set_cons_zero, List.set_cons_succ]
    refine wpLast_take (i := 23) (o := { dst := some 57, op := Op.fieldAddr 62 (Operand.tmp 56) 0, type := 0, pos := "ref.go:46", after := #[{ on := 22, ground := Ground.data }, { on := 0, ground := Ground.phase }, { on := 1, ground := Ground.phase }, { on := 2, ground := Ground.phase }, { on := 3, ground := Ground.phase }, { on := 4, ground := Ground.phase }, { on := 5, ground := Ground.phase }, { on := 6, ground := Ground.phase }, { on := 7, ground := Ground.phase }, { on := 8, ground := Ground.phase }, { on := 9, ground := Ground.phase }, { on := 10, ground := Ground.phase }, { on := 11, ground := Ground.phase }, { on := 12, ground := Ground.phase }, { on := 13, ground := Ground.phase }, { on := 14, ground := Ground.phase }, { on := 15, ground := Ground.phase }, { on := 16, ground := Ground.phase }, { on := 17, ground := Ground.phase }, { on := 18, ground := Ground.phase }, { on := 19, ground := Ground.phase }, { on := 20, ground := Ground.phase }, { on := 21, ground := Ground.phase }], guard := none }) (v := ?vn53) rfl (by kernel_rfl) (by kernel_rfl) (by kernel_rfl) (fun _ _ _ h => h) (by kernel_rfl) (Or.inl ⟨by rfl, ?hn53⟩) (by assumption) ?rn53
    case hn53 => (intro w hSw; (try dsimp only at hSw); go_simp; try with_reducible rfl)
    try simp only [Act.put, List.setIfInBounds_toArray, List.set_cons_zero, List.set_cons_succ]
    refine wpLast_ready (rs := [24]) (by kernel_rfl) (by simp) (LastReady.cons (o := { dst := none, op := Op.store 60 (Operand.tmp 57) (Operand.tmp 55), type := 0, pos := "ref.go:46", after := #[{ on := 23, ground := Ground.data }, { on := 21, ground := Ground.data }, { on := 21, ground := Ground.chain }, { on := 0, ground := Ground.phase }, { on := 1, ground := Ground.phase }, { on := 2, ground := Ground.phase }, { on := 3, ground := Ground.phase }, { on := 4, ground := Ground.phase }, { on := 5, ground := Ground.phase }, { on := 6, ground := Ground.phase }, { on := 7, ground := Ground.phase }, { on := 8, ground := Ground.phase }, { on := 9, ground := Ground.phase }, { on := 10, ground := Ground.phase }, { on := 11, ground := Ground.phase }, { on := 12, ground := Ground.phase }, { on := 13, ground := Ground.phase }, { on := 14, ground := Ground.phase }, { on := 15, ground := Ground.phase }, { on := 16, ground := Ground.phase }, { on := 17, ground := Ground.phase }, { on := 18, ground := Ground.phase }, { on := 19, ground := Ground.phase }, { on := 20, ground := Ground.phase }, { on := 21, ground := Ground.phase }], guard := none }) rfl (fun K hK => ?_) LastReady.nil)
    have kc54 := HC0.out _ hJ48
    have kf54 := HF0.out _ hJ48
    obtain ⟨sa54, sn54, sc54, rfl⟩ := hO48.shape
    go_simp
    refine hK.out _ _ (fun e => absurd rfl e) ?_
    clear hK K
    try simp only [Act.put, List.setIfInBounds_toArray, List.set_cons_zero, List.set_cons_succ]
    refine wpLast_done (by kernel_rfl) ?_ _
    have HFIN := Lib.hid (HEND.out w48 hJ48 _ hO48)
    go_wp2
    all_goals
      go_ret
      exact ⟨rfl, HFIN.out⟩

set_option maxRecDepth 100000 in
set_option maxHeartbeats 8000000 in
theorem rdrop_some {W : World} {o : Nat} {L : List G} {B cap gb go : Nat} (h : RefAt W o L B (.slice (some ⟨gb, go, none⟩) L.length cap)) (hs : Sorted L) (hlen : L.length ≤ 200) (i : Int) (hE : hasG L i = true) (b0 : Nat) (hb0 : b0 ≤ B) :
    Calls Tryz.prog 31 #[.pointer (some ⟨o, 0, none⟩), .int .i64 i] W fun e w' => e = .returned (.int .i64 0) ∧ (∃ v', RefAt w' o (delG i L) b0 v' ∧ NewRow W v') ∧ OnlyAt o W.heap.size W w' := by
  have C1 := Lib.hid (rhas_any h hs hlen i)
  have C3 := Lib.hid (rat_any h hlen i)
  rw [hE] at C1
  have c0 := h.c0
  have hdel := del_plc hs hE
  have hkl : plc i L < L.length := by
    have h1 := has_plc hs i
    rw [hE] at h1
    have h2 := plc_le i L
    by_cases e : plc i L = L.length
    · rw [e, List.getElem?_eq_none (Nat.le_refl _)] at h1
      simp at h1
    · omega
  obtain ⟨k, hk⟩ : ∃ k, plc i L = k := ⟨_, rfl⟩
  rw [hk] at C3 hkl hdel
  obtain ⟨k1, hk1⟩ : ∃ k1, k + 1 = k1 := ⟨_, rfl⟩
  rw [hk1] at hdel
  have HI := Lib.hid hdel
  have hcap := (ref_src h).1
  have HC0 : Hid (∀ X, Below W.heap.size W X → X.cell? ⟨o, 0, none⟩ = some (.slice (some ⟨gb, go, none⟩) L.length cap)) := Lib.hid (fun X hX => (h.below hX).c0)
  have HF0 : Hid (∀ X, Below W.heap.size W X → X.frozen? ⟨o, 0, none⟩ = false) := Lib.hid (fun X hX => by simp [World.frozen?, (h.below hX).cell])
  have HTK : Hid (∀ X, Below W.heap.size W X → ∀ (j : Nat) x, (L.take k)[j]? = some x → ∀ i, i < 3 → X.cell? ⟨gb, go + j * 3 + i, none⟩ = (gCells x)[i]?) := Lib.hid (fun X hX j x hx i hi => (ref_src h).2 X hX j x (by
    rw [List.getElem?_take] at hx
    split at hx
    · exact hx
    · cases hx) i hi)
  obtain ⟨dof, HDO, HDR⟩ := ref_drop h k1
  have HXT : Hid ((L.take k).length = k) := Lib.hid (by rw [List.length_take]; omega)
  have HXD : Hid ((L.drop k1).length = L.length - k1) := Lib.hid List.length_drop
  have HEND : Hid (∀ X, Below W.heap.size W X → ∀ v', OwnG X W.heap.size v' ([] ++ L.take k ++ L.drop k1) → (∃ v'', RefAt (X.setCell ⟨o, 0, none⟩ v') o (delG i L) b0 v'' ∧ NewRow W v'') ∧ OnlyAt o W.heap.size W (X.setCell ⟨o, 0, none⟩ v')) := Lib.hid (fun X hX v' hO => by
    rw [show [] ++ L.take k ++ L.drop k1 = delG i L by rw [HI.out, List.nil_append]] at hO
    obtain ⟨h1, h2⟩ := ref_set h hX hO hb0
    exact ⟨⟨v', h1, fun k hk => (hO.lt k hk).1⟩, h2⟩)
  have hJ0 : Below W.heap.size W W.drew := (Below.refl _ _).drew
  have q1 : (k : Int) + 1 = (k1 : Int) := by omega
  have q2 : IntKind.i64.wrap (k1 : Int) = (k1 : Int) := by rw [IntKind.wrap_i64]; omega
  have kz1 : (k : Int) ≤ (cap : Int) := by omega
  have kz2 : (k : Int) ≤ (L.length : Int) := by omega
  have kz3 : (0 : Int) ≤ (k : Int) := by omega
  have kz4 : (L.length : Int) ≤ (cap : Int) := by omega
  have kz5 : (k1 : Int) ≤ (L.length : Int) := by omega
  have kz6 : (0 : Int) ≤ (k1 : Int) := by omega
  have kn5 : k1 ≤ L.length := by omega
  clear h hs hE hk hdel hb0 hk1
  go_enter Tryz.func31, Tryz.ntmps31
  go_wp2_with (first
    | (go_at_call 38; refine C1.out.mono ?_; rintro e w1 ⟨rfl, e1⟩; rw [e1]; clear e1 w1)
    | (go_at_call 67; refine C3.out.mono ?_; rintro e w1 ⟨rfl, e1⟩; rw [e1]; clear e1 w1))
  refine wp_region_last (S := (fun w' => w'.cell? ⟨o, 0, none⟩ = some (.slice (some ⟨gb, go, none⟩) L.length cap))) (z := 19) (by kernel_rfl) ?_ (fun hHeld => ?_)
  · exact HC0.out _ hJ0
  generalize W.drew = W0 at hHeld hJ0 ⊢
  refine wpLast_take (i := 0) (o := { dst := some 13, op := Op.move (Operand.tmp 0), type := 51, pos := "ref.go:56", after := #[], guard := none }) (v := ?vd1) rfl (by kernel_rfl) (by kernel_rfl) (by kernel_rfl) (fun _ _ _ h => h) (by kernel_rfl) (Or.inl ⟨by rfl, ?hd1⟩) (by assumption) ?rd1
  case hd1 => (intro w hSw; (try dsimp only at hSw); go_simp; try with_reducible rfl)
  try simp only [Act.put, List.setIfInBounds_toArray, List.set_cons_zero, List.set_cons_succ]
  refine wpLast_take (i := 2) (o := { dst := some 15, op := Op.move (Operand.tmp 0), type := 51, pos := "ref.go:56", after := #[], guard := none }) (v := ?vd2) rfl (by kernel_rfl) (by kernel_rfl) (by kernel_rfl) (fun _ _ _ h => h) (by kernel_rfl) (Or.inl ⟨by rfl, ?hd2⟩) (by assumption) ?rd2
  case hd2 => (intro w hSw; (try dsimp only at hSw); go_simp; try with_reducible rfl)
  try simp only [Act.put, List.setIfInBounds_toArray, List.set_cons_zero, List.set_cons_succ]
  refine wpLast_take (i := 3) (o := { dst := some 16, op := Op.nilCheck (Operand.tmp 15), type := 0, pos := "ref.go:56", after := #[{ on := 2, ground := Ground.data }], guard := none }) (v := ?vd3) rfl (by kernel_rfl) (by kernel_rfl) (by kernel_rfl) (fun _ _ _ h => h) (by kernel_rfl) (Or.inl ⟨by rfl, ?hd3⟩) (by assumption) ?rd3
  case hd3 => (intro w hSw; (try dsimp only at hSw); go_simp; try with_reducible rfl)
  try simp only [Act.put, List.setIfInBounds_toArray, List.set_cons_zero, List.set_cons_succ]
  refine wpLast_take (i := 4) (o := { dst := some 17, op := Op.fieldAddr 62 (Operand.tmp 16) 0, type := 0, pos := "ref.go:56", after := #[{ on := 3, ground := Ground.data }], guard := none }) (v := ?vd4) rfl (by kernel_rfl) (by kernel_rfl) (by kernel_rfl) (fun _ _ _ h => h) (by kernel_rfl) (Or.inl ⟨by rfl, ?hd4⟩) (by assumption) ?rd4
  case hd4 => (intro w hSw; (try dsimp only at hSw); go_simp; try with_reducible rfl)
  try simp only [Act.put, List.setIfInBounds_toArray, List.set_cons_zero, List.set_cons_succ]
  refine wpLast_take (i := 5) (o := { dst := some 18, op := Op.load 60 (Operand.tmp 17), type := 60, pos := "ref.go:56", after := #[{ on := 4, ground := Ground.data }], guard := none }) (v := ?vd5) rfl (by kernel_rfl) (by kernel_rfl) (by kernel_rfl) (fun _ _ _ h => h) (by kernel_rfl) (Or.inl ⟨by rfl, ?hd5⟩) (by assumption) ?rd5
  case hd5 => (intro w hSw; (try dsimp only at hSw); go_simp; try with_reducible rfl)
  try simp only [Act.put, List.setIfInBounds_toArray, List.set_cons_zero, List.set_cons_succ]
  refine wpLast_take (i := 6) (o := { dst := some 19, op := Op.move (Operand.tmp 5), type := 3, pos := "ref.go:56", after := #[], guard := none }) (v := ?vd6) rfl (by kernel_rfl) (by kernel_rfl) (by kernel_rfl) (fun _ _ _ h => h) (by kernel_rfl) (Or.inl ⟨by rfl, ?hd6⟩) (by assumption) ?rd6
  case hd6 => (intro w hSw; (try dsimp only at hSw); go_simp; try with_reducible rfl)
  try simp only [Act.put, List.setIfInBounds_toArray, List.set_cons_zero, List.set_cons_succ]
  refine wpLast_take (i := 7) (o := { dst := some 20, op := Op.slice 60 (Operand.tmp 18) none (some (Operand.tmp 19)) none, type := 60, pos := "ref.go:56", after := #[{ on := 5, ground := Ground.data }, { on := 6, ground := Ground.data }], guard := none }) (v := ?vd7) rfl (by kernel_rfl) (by kernel_rfl) (by kernel_rfl) (fun _ _ _ h => h) (by kernel_rfl) (Or.inl ⟨by rfl, ?hd7⟩) (by assumption) ?rd7
  case hd7 => (intro w hSw; (try dsimp only at hSw); go_simp; try with_reducible rfl)
  try simp only [Act.put, List.setIfInBounds_toArray, List.set_cons_zero, List.set_cons_succ]
  refine wpLast_take (i := 9) (o := { dst := some 22, op := Op.move (Operand.tmp 0), type := 51, pos := "ref.go:56", after := #[], guard := none }) (v := ?vd8) rfl (by kernel_rfl) (by kernel_rfl) (by kernel_rfl) (fun _ _ _ h => h) (by kernel_rfl) (Or.inl ⟨by rfl, ?hd8⟩) (by assumption) ?rd8
  case hd8 => (intro w hSw; (try dsimp only at hSw); go_simp; try with_reducible rfl)
  try simp only [Act.put, List.setIfInBounds_toArray, List.set_cons_zero, List.set_cons_succ]
  refine wpLast_take (i := 10) (o := { dst := some 23, op := Op.nilCheck (Operand.tmp 22), type := 0, pos := "ref.go:56", after := #[{ on := 9, ground := Ground.data }], guard := none }) (v := ?vd9) rfl (by kernel_rfl) (by kernel_rfl) (by kernel_rfl) (fun _ _ _ h => h) (by kernel_rfl) (Or.inl ⟨by rfl, ?hd9⟩) (by assumption) ?rd9
  case hd9 => (intro w hSw; (try dsimp only at hSw); go_simp; try with_reducible rfl)
  try simp only [Act.put, List.setIfInBounds_toArray, List.set_cons_zero, List.set_cons_succ]
  refine wpLast_take (i := 11) (o := { dst := some 24, op := Op.fieldAddr 62 (Operand.tmp 23) 0, type := 0, pos := "ref.go:56", after := #[{ on := 10, ground := Ground.data }], guard := none }) (v := ?vd10) rfl (by kernel_rfl) (by kernel_rfl) (by kernel_rfl) (fun _ _ _ h => h) (by kernel_rfl) (Or.inl ⟨by rfl, ?hd10⟩) (by assumption) ?rd10
  case hd10 => (intro w hSw; (try dsimp only at hSw); go_simp; try with_reducible rfl)
  try simp only [Act.put, List.setIfInBounds_toArray, List.set_cons_zero, List.set_cons_succ]
  refine wpLast_take (i := 12) (o := { dst := some 25, op := Op.load 60 (Operand.tmp 24), type := 60, pos := "ref.go:56", after := #[{ on := 11, ground := Ground.data }], guard := none }) (v := ?vd11) rfl (by kernel_rfl) (by kernel_rfl) (by kernel_rfl) (fun _ _ _ h => h) (by kernel_rfl) (Or.inl ⟨by rfl, ?hd11⟩) (by assumption) ?rd11
  case hd11 => (intro w hSw; (try dsimp only at hSw); go_simp; try with_reducible rfl)
  try simp only [Act.put, List.setIfInBounds_toArray, List.set_cons_zero, List.set_cons_succ]
  refine wpLast_take (i := 13) (o := { dst := some 26, op := Op.move (Operand.tmp 5), type := 3, pos := "ref.go:56", after := #[], guard := none }) (v := ?vd12) rfl (by kernel_rfl) (by kernel_rfl) (by kernel_rfl) (fun _ _ _ h => h) (by kernel_rfl) (Or.inl ⟨by rfl, ?hd12⟩) (by assumption) ?rd12
  case hd12 => (intro w hSw; (try dsimp only at hSw); go_simp; try with_reducible rfl)
  try simp only [Act.put, List.setIfInBounds_toArray, List.set_cons_zero, List.set_cons_succ]
  refine wpLast_take (i := 14) (o := { dst := some 27, op := Op.binOp BinOp.add 3 (Operand.tmp 26) (Operand.const (Value.int IntKind.i64 1)) 3, type := 3, pos := "ref.go:56", after := #[{ on := 13, ground := Ground.data }], guard := none }) (v := ?vd13) rfl (by kernel_rfl) (by kernel_rfl) (by kernel_rfl) (fun _ _ _ h => h) (by kernel_rfl) (Or.inl ⟨by rfl, ?hd13⟩) (by assumption) ?rd13
  case hd13 => (intro w hSw; (try dsimp only at hSw); go_simp; try with_reducible rfl)
  try simp only [Act.put, List.setIfInBounds_toArray, List.set_cons_zero, List.set_cons_succ]
  refine wpLast_take (i := 15) (o := { dst := some 28, op := Op.slice 60 (Operand.tmp 25) (some (Operand.tmp 27)) none none, type := 60, pos := "ref.go:56", after := #[{ on := 12, ground := Ground.data }, { on := 14, ground := Ground.data }], guard := none }) (v := ?vd14) rfl (by kernel_rfl) (by kernel_rfl) (by kernel_rfl) (fun _ _ _ h => h) (by kernel_rfl) (Or.inl ⟨by rfl, ?hd14⟩) (by assumption) ?rd14
  case hd14 => (intro w hSw; (try dsimp only at hSw); go_simp; try with_reducible rfl)
  try simp only [Act.put, List.setIfInBounds_toArray, List.set_cons_zero, List.set_cons_succ]
  refine wpLast_ready (rs := [1]) (by kernel_rfl) (by simp) (LastReady.cons (o := { dst := some 14, op := Op.buildSlice 60 0 #[], type := 60, pos := "ref.go:56", after := #[], guard := none }) rfl (fun K hK => ?_) LastReady.nil)
  go_simp
  have hJ15 := hJ0.alloc hJ0.size (.cells #[] 66)
  have hO15 := own_empty W0 hJ0.size
  generalize W0.alloc (.cells #[] 66) = w15 at hJ15 hO15 ⊢
  have hS16 := HC0.out _ hJ15
  refine hK.out _ _ (fun _ => HC0.out _ hJ15) ?_
  clear hK K
  try simp only [Act.put, List.setIfInBounds_toArray, List.set_cons_zero, List.set_cons_succ]
  refine wpLast_ready (rs := [8]) (by kernel_rfl) (by simp) (LastReady.cons (o := { dst := some 21, op := Op.call { callee := Callee.builtin Builtin.append, args := #[Operand.tmp 14, Operand.tmp 20], argTypes := #[60, 60] }, type := 60, pos := "ref.go:56", after := #[{ on := 1, ground := Ground.data }, { on := 7, ground := Ground.data }], guard := none }) rfl (fun K hK => ?_) LastReady.nil)
  rw [if_pos (by rfl)]
  refine wp_appG W.heap.size hO15 (HTK.out _ hJ15) (by simp; omega) hJ15.size _ _ rfl rfl (by rw [HXT.out]; rfl) ?_
  intro v17 w17 hO17 hg17
  have hJ17 := below_appG hJ15 hO15 hJ15.size hg17
  have hS18 := HC0.out _ hJ17
  refine hK.out _ _ (fun _ => HC0.out _ hJ17) ?_
  clear hK K
  try simp only [Act.put, List.setIfInBounds_toArray, List.set_cons_zero, List.set_cons_succ]
  refine wpLast_ready (rs := [16]) (by kernel_rfl) (by simp) (LastReady.cons (o := { dst := some 29, op := Op.call { callee := Callee.builtin Builtin.append, args := #[Operand.tmp 21, Operand.tmp 28], argTypes := #[60, 60] }, type := 60, pos := "ref.go:56", after := #[{ on := 8, ground := Ground.data }, { on := 15, ground := Ground.data }, { on := 8, ground := Ground.chain }], guard := none }) rfl (fun K hK => ?_) LastReady.nil)
  rw [if_pos (by rfl)]
  refine wp_appG W.heap.size hO17 (HDR.out _ hJ17) (by simp; omega) hJ17.size _ _ rfl rfl (by rw [HXD.out]; exact congrArg (fun z => Value.slice z (L.length - k1) (cap - k1)) HDO.out) ?_
  intro v19 w19 hO19 hg19
  have hJ19 := below_appG hJ17 hO17 hJ17.size hg19
  have hS20 := HC0.out _ hJ19
  refine hK.out _ _ (fun _ => HC0.out _ hJ19) ?_
  clear hK K
  try simp only [Act.put, List.setIfInBounds_toArray, List.set_cons_zero, List.set_cons_succ]
  refine wpLast_ready (rs := [17]) (by kernel_rfl) (by simp) (LastReady.cons (o := { dst := some 30, op := Op.nilCheck (Operand.tmp 13), type := 0, pos := "ref.go:56", after := #[{ on := 0, ground := Ground.data }, { on := 0, ground := Ground.phase }, { on := 1, ground := Ground.phase }, { on := 2, ground := Ground.phase }, { on := 3, ground := Ground.phase }, { on := 4, ground := Ground.phase }, { on := 5, ground := Ground.phase }, { on := 6, ground := Ground.phase }, { on := 7, ground := Ground.phase }, { on := 8, ground := Ground.phase }, { on := 9, ground := Ground.phase }, { on := 10, ground := Ground.phase }, { on := 11, ground := Ground.phase }, { on := 12, ground := Ground.phase }, { on := 13, ground := Ground.phase }, { on := 14, ground := Ground.phase }, { on := 15, ground := Ground.phase }, { on := 16, ground := Ground.phase }], guard := none }) rfl (fun K hK => ?_) LastReady.nil)
  go_simp
  have hS21 := HC0.out _ hJ19
  refine hK.out _ _ (fun _ => HC0.out _ hJ19) ?_
  clear hK K
  try simp only [Act.put, List.setIfInBounds_toArray, List.set_cons_zero, List.set_cons_succ]
  refine wpLast_take (i := 18) (o := { dst := some 31, op := Op.fieldAddr 62 (Operand.tmp 30) 0, type := 0, pos := "ref.go:56", after := #[{ on := 17, ground := Ground.data }, { on := 0, ground := Ground.phase }, { on := 1, ground := Ground.phase }, { on := 2, ground := Ground.phase }, { on := 3, ground := Ground.phase }, { on := 4, ground := Ground.phase }, { on := 5, ground := Ground.phase }, { on := 6, ground := Ground.phase }, { on := 7, ground := Ground.phase }, { on := 8, ground := Ground.phase }, { on := 9, ground := Ground.phase }, { on := 10, ground := Ground.phase }, { on := 11, ground := Ground.phase }, { on := 12, ground := Ground.phase }, { on := 13, ground := Ground.phase }, { on := 14, ground := Ground.phase }, { on := 15, ground := Ground.phase }, { on := 16, ground := Ground.phase }], guard := none }) (v := ?vd22) rfl (by kernel_rfl) (by kernel_rfl) (by kernel_rfl) (fun _ _ _ h => h) (by kernel_rfl) (Or.inl ⟨by rfl, ?hd22⟩) (by assumption) ?rd22
  case hd22 => (intro w hSw; (try dsimp only at hSw); go_simp; try with_reducible rfl)
  try simp only [Act.put, List.setIfInBounds_toArray, List.set_cons_zero, List.set_cons_succ]
  refine wpLast_ready (rs := [19]) (by kernel_rfl) (by simp) (LastReady.cons (o := { dst := none, op := Op.store 60 (Operand.tmp 31) (Operand.tmp 29), type := 0, pos := "ref.go:56", after := #[{ on := 18, ground := Ground.data }, { on := 16, ground := Ground.data }, { on := 16, ground := Ground.chain }, { on := 0, ground := Ground.phase }, { on := 1, ground := Ground.phase }, { on := 2, ground := Ground.phase }, { on := 3, ground := Ground.phase }, { on := 4, ground := Ground.phase }, { on := 5, ground := Ground.phase }, { on := 6, ground := Ground.phase }, { on := 7, ground := Ground.phase }, { on := 8, ground := Ground.phase }, { on := 9, ground := Ground.phase }, { on := 10, ground := Ground.phase }, { on := 11, ground := Ground.phase }, { on := 12, ground := Ground.phase }, { on := 13, ground := Ground.phase }, { on := 14, ground := Ground.phase }, { on := 15, ground := Ground.phase }, { on := 16, ground := Ground.phase }], guard := none }) rfl (fun K hK => ?_) LastReady.nil)
  have kc23 := HC0.out _ hJ19
  have kf23 := HF0.out _ hJ19
  obtain ⟨sa23, sn23, sc23, rfl⟩ := hO19.shape
  go_simp
  refine hK.out _ _ (fun e => absurd rfl e) ?_
  clear hK K
  try simp only [Act.put, List.setIfInBounds_toArray, List.set_cons_zero, List.set_cons_succ]
  refine wpLast_done (by kernel_rfl) ?_ _
  have HFIN := Lib.hid (HEND.out w19 hJ19 _ hO19)
  go_wp2
  all_goals
    go_ret
    exact ⟨rfl, HFIN.out⟩

theorem rput_bad {W : World} {o : Nat} {L : List G} {B : Nat} {v : Value} (h : RefAt W o L B v) (hs : Sorted L) (hlen : L.length ≤ 200) (i : Int) (p : ByteArray) (f : Bool) (hE : putE L i p ≠ 0) :
    Calls Tryz.prog 30 #[.pointer (some ⟨o, 0, none⟩), .int .i64 i, .string p, .bool f] W fun e w' => e = .returned (.int .i64 (putE L i p)) ∧ w' = W := by
  have C1 := Lib.hid (rhas_any h hs hlen i)
  have C2 := Lib.hid (refCheck p W)
  obtain ⟨a, c, hv, _⟩ := h.row.reads
  subst hv
  have c0 := h.c0
  unfold putE at hE ⊢
  obtain ⟨hb, hhb⟩ : ∃ hb, hasG L i = hb := ⟨_, rfl⟩
  obtain ⟨ck, hck⟩ : ∃ ck, checkN p.size = ck := ⟨_, rfl⟩
  obtain ⟨n, hn⟩ : ∃ n, L.length = n := ⟨_, rfl⟩
  rw [hhb] at C1 hE ⊢
  rw [hck] at C2 hE ⊢
  rw [hn] at c0 hE ⊢
  have hck2 : ck = 0 ∨ ck = 2 ∨ ck = 4 := by
    rw [← hck]
    unfold checkN
    split
    · exact .inr (.inl rfl)
    · split
      · exact .inr (.inr rfl)
      · exact .inl rfl
  clear h hs hlen hhb hck hn
  by_cases hi : i < 0
  · rw [if_pos hi]
    go_enter Tryz.func30, Tryz.ntmps30
    go_wp2
    go_ret
    exact ⟨rfl, rfl⟩
  · rw [if_neg hi] at hE ⊢
    cases hb with
    | true =>
      rw [if_pos rfl]
      go_enter Tryz.func30, Tryz.ntmps30
      go_wp2_with (go_at_call 38; refine C1.out.mono ?_; rintro e w1 ⟨rfl, e1⟩; rw [e1]; clear e1 w1)
      go_ret
      exact ⟨rfl, rfl⟩
    | false =>
      rw [if_neg (by decide)] at hE ⊢
      rcases hck2 with rfl | rfl | rfl
      · rw [if_neg (by decide)] at hE ⊢
        have hn : 200 ≤ n := by
          by_cases e : 200 ≤ n
          · exact e
          · rw [if_neg e] at hE; exact absurd rfl hE
        have hnz : (200 : Int) ≤ (n : Int) := by omega
        rw [if_pos hn]
        clear hE
        go_enter Tryz.func30, Tryz.ntmps30
        go_wp2_with (first
          | (go_at_call 38; refine C1.out.mono ?_; rintro e w1 ⟨rfl, e1⟩; rw [e1]; clear e1 w1)
          | (go_at_call 66; refine C2.out.mono ?_; rintro e w1 ⟨rfl, e1⟩; rw [e1]; clear e1 w1))
        go_ret
        exact ⟨rfl, rfl⟩
      · rw [if_pos (by decide)]
        clear hE
        go_enter Tryz.func30, Tryz.ntmps30
        go_wp2_with (first
          | (go_at_call 38; refine C1.out.mono ?_; rintro e w1 ⟨rfl, e1⟩; rw [e1]; clear e1 w1)
          | (go_at_call 66; refine C2.out.mono ?_; rintro e w1 ⟨rfl, e1⟩; rw [e1]; clear e1 w1))
        go_ret
        exact ⟨rfl, rfl⟩
      · rw [if_pos (by decide)]
        clear hE
        go_enter Tryz.func30, Tryz.ntmps30
        go_wp2_with (first
          | (go_at_call 38; refine C1.out.mono ?_; rintro e w1 ⟨rfl, e1⟩; rw [e1]; clear e1 w1)
          | (go_at_call 66; refine C2.out.mono ?_; rintro e w1 ⟨rfl, e1⟩; rw [e1]; clear e1 w1))
        go_ret
        exact ⟨rfl, rfl⟩
theorem rdrop_bad {W : World} {o : Nat} {L : List G} {B : Nat} {v : Value} (h : RefAt W o L B v) (hs : Sorted L) (hlen : L.length ≤ 200) (i : Int) (hE : hasG L i = false) :
    Calls Tryz.prog 31 #[.pointer (some ⟨o, 0, none⟩), .int .i64 i] W fun e w' => e = .returned (.int .i64 12) ∧ w' = W := by
  have C1 := Lib.hid (rhas_any h hs hlen i)
  rw [hE] at C1
  clear h hs hlen hE
  go_enter Tryz.func31, Tryz.ntmps31
  go_wp2_with (go_at_call 38; refine C1.out.mono ?_; rintro e w1 ⟨rfl, e1⟩; rw [e1]; clear e1 w1)
  go_ret
  exact ⟨rfl, rfl⟩

theorem RefAt.shape {W : World} {o : Nat} {L : List G} {B : Nat} {v : Value} (h : RefAt W o L B v) : (v = .slice none 0 0 ∧ L = []) ∨ ∃ gb go cap, v = .slice (some ⟨gb, go, none⟩) L.length cap := by
  rcases h.row.2 with ⟨e, h0⟩ | ⟨g, cap, cur, e, _⟩
  · exact .inl ⟨e, List.length_eq_zero_iff.1 h0⟩
  · exact .inr ⟨g, 0, cap, e⟩
theorem rput_any {W : World} {o : Nat} {L : List G} {B : Nat} {v : Value} (h : RefAt W o L B v) (hs : Sorted L) (hlen : L.length ≤ 200) (i : Int) (p : ByteArray) (f : Bool) :
    Calls Tryz.prog 30 #[.pointer (some ⟨o, 0, none⟩), .int .i64 i, .string p, .bool f] W fun e w' => e = .returned (.int .i64 (putE L i p)) ∧ (∃ v', RefAt w' o (putL L i p f) B v' ∧ (v' = v ∨ NewRow W v')) ∧ OnlyAt o W.heap.size W w' := by
  unfold putL
  by_cases hE : putE L i p = 0
  · rw [if_pos hE, hE]
    rcases h.shape with ⟨rfl, rfl⟩ | ⟨gb, go, cap, rfl⟩
    · exact (rput_none h i p f hE B (Nat.le_refl _)).mono fun e w' ⟨h1, ⟨v', h2, h3⟩, h4⟩ => ⟨h1, ⟨v', h2, .inr h3⟩, h4⟩
    · exact (rput_some h hs hlen i p f hE B (Nat.le_refl _)).mono fun e w' ⟨h1, ⟨v', h2, h3⟩, h4⟩ => ⟨h1, ⟨v', h2, .inr h3⟩, h4⟩
  · rw [if_neg hE]
    refine (rput_bad h hs hlen i p f hE).mono ?_
    rintro e w' ⟨rfl, rfl⟩
    exact ⟨rfl, ⟨v, h, .inl rfl⟩, OnlyAt.refl _ _ _⟩
theorem rdrop_any {W : World} {o : Nat} {L : List G} {B : Nat} {v : Value} (h : RefAt W o L B v) (hs : Sorted L) (hlen : L.length ≤ 200) (i : Int) :
    Calls Tryz.prog 31 #[.pointer (some ⟨o, 0, none⟩), .int .i64 i] W fun e w' => e = .returned (.int .i64 (dropE L i)) ∧ (∃ v', RefAt w' o (delG i L) B v' ∧ (v' = v ∨ NewRow W v')) ∧ OnlyAt o W.heap.size W w' := by
  unfold dropE
  cases hE : hasG L i with
  | true =>
    rcases h.shape with ⟨rfl, rfl⟩ | ⟨gb, go, cap, rfl⟩
    · simp [hasG] at hE
    · exact (rdrop_some h hs hlen i hE B (Nat.le_refl _)).mono fun e w' ⟨h1, ⟨v', h2, h3⟩, h4⟩ => ⟨h1, ⟨v', h2, .inr h3⟩, h4⟩
  | false =>
    rw [delG_none hE]
    refine (rdrop_bad h hs hlen i hE).mono ?_
    rintro e w' ⟨rfl, rfl⟩
    exact ⟨rfl, ⟨v, h, .inl rfl⟩, OnlyAt.refl _ _ _⟩
end Go.Proofs.YtnpgmekgmelamaaGreat
