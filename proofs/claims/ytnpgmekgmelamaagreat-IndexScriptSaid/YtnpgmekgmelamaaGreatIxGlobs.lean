/-
  What is proved: what Globs returns: the globs by their numbers, in a list of one's own.
-/
import Derived.Test.YtnpgmekgmelamaaGreatIxSame
import Derived.Test.YtnpgmekgmelamaaGreatIxMat
import Derived.Laws.AppendOwnNone
namespace Go.Proofs.YtnpgmekgmelamaaGreat
open Go.RowKit Go.Shelf Go.Maps

def gcells : List G → List Value
  | [] => []
  | g :: L => .int .i64 g.id :: .string g.p :: .bool g.f :: gcells L
theorem gcells_len : ∀ L : List G, (gcells L).length = L.length * 3
  | [] => rfl
  | g :: L => by show (gcells L).length + 1 + 1 + 1 = _; rw [gcells_len L, List.length_cons]; omega
theorem gcells_app : ∀ L M : List G, gcells (L ++ M) = gcells L ++ gcells M
  | [], _ => rfl
  | g :: L, M => by show _ :: _ :: _ :: gcells (L ++ M) = _; rw [gcells_app L M]; rfl
theorem gcells_at : ∀ (L : List G) (j : Nat) (u : Value), (gcells L)[j]? = some u → ∃ q r x, j = q * 3 + r ∧ r < 3 ∧ L[q]? = some x ∧ (gCells x)[r]? = some u
  | [], j, u, h => by simp [gcells] at h
  | g :: L, 0, u, h => ⟨0, 0, g, rfl, by decide, rfl, h⟩
  | g :: L, 1, u, h => ⟨0, 1, g, rfl, by decide, rfl, h⟩
  | g :: L, 2, u, h => ⟨0, 2, g, rfl, by decide, rfl, h⟩
  | g :: L, j + 3, u, h => by
    obtain ⟨q, r, x, e, h1, h2, h3⟩ := gcells_at L j u h
    exact ⟨q + 1, r, x, by omega, h1, h2, h3⟩
theorem gcells_get : ∀ (L : List G) (q r : Nat) (x : G), L[q]? = some x → r < 3 → (gcells L)[q * 3 + r]? = (gCells x)[r]?
  | [], q, r, x, h, _ => by simp at h
  | g :: L, 0, r, x, h, hr => by
    have e : g = x := by simpa using h
    subst e
    match r, hr with
    | 0, _ => rfl
    | 1, _ => rfl
    | 2, _ => rfl
  | g :: L, q + 1, r, x, h, hr => by
    have := gcells_get L q r x h hr
    rw [show (q + 1) * 3 + r = (q * 3 + r) + 3 by omega]
    exact this
theorem gcells_one {L : List G} {u : Value} (h : u ∈ gcells L) : u.oneCell' = true := by
  obtain ⟨j, hj, e⟩ := List.getElem_of_mem h
  obtain ⟨q, r, x, _, hr, _, h3⟩ := gcells_at L j u (by rw [List.getElem?_eq_getElem hj, e])
  match r, hr with
  | 0, _ => have : .int .i64 x.id = u := by simpa [gCells] using h3
            rw [← this]; rfl
  | 1, _ => have : .string x.p = u := by simpa [gCells] using h3
            rw [← this]; rfl
  | 2, _ => have : .bool x.f = u := by simpa [gCells] using h3
            rw [← this]; rfl

/-- A list of globs of one's own in memory. -/
def OwnG (W : World) (B : Nat) (v : Value) (L : List G) : Prop := W.ownsRow B 66 3 v L.length (gcells L)
theorem OwnG.nil (W : World) (B : Nat) : OwnG W B (.slice none 0 0) [] := World.ownsRow_nil _ _ _ _
theorem OwnG.reads {W : World} {B : Nat} {v : Value} {L : List G} (h : OwnG W B v L) : GlobsR W v L := by
  obtain ⟨_, h2⟩ := id h
  rcases h2 with ⟨rfl, h0⟩ | ⟨g, cap, cur, rfl, _, hg, _⟩
  · rw [List.length_eq_zero_iff.1 h0]
    exact ⟨none, 0, rfl, fun j x hx => by simp at hx⟩
  · refine ⟨some ⟨g, 0, none⟩, cap, rfl, fun j x hx => ⟨g, 0, rfl, (Array.getElem?_eq_some_iff.1 hg).1, fun i hi => ?_⟩⟩
    have h3 := gcells_get L j i x hx hi
    have hs : ∃ u, (gCells x)[i]? = some u := by
      match i, hi with
      | 0, _ => exact ⟨_, rfl⟩
      | 1, _ => exact ⟨_, rfl⟩
      | 2, _ => exact ⟨_, rfl⟩
    obtain ⟨u, hu⟩ := hs
    have := h.cells (g := g) rfl (j * 3 + i) u (by rw [h3, hu])
    rw [show (⟨g, 0, none⟩ : Addr).add (j * 3 + i) = ⟨g, 0 + j * 3 + i, none⟩ by rw [Nat.zero_add]; unfold Addr.add; split <;> simp_all] at this
    rw [this, hu]
theorem OwnG.later {W W' : World} {B : Nat} {v : Value} {L : List G} (h : OwnG W B v L) (hb : Below W.heap.size W W') : OwnG W' B v L := by
  obtain ⟨hl, h⟩ := h
  refine ⟨hl, ?_⟩
  rcases h with h | ⟨g, cap, cur, e, hB, hg, r⟩
  · exact .inl h
  · exact .inr ⟨g, cap, cur, e, hB, (hb.block g (Array.getElem?_eq_some_iff.1 hg).1).trans hg, r⟩

theorem info_glob : (Tryz.prog.info? 66).map (fun i => (i.zero, i.size, i.bytes)) = some (some (.agg #[.int .i64 0, .string ByteArray.empty, .bool false]), 3, 32) := by kernel_rfl

/-- A list of globs that lies at b appended to a list of one's own. -/
theorem appG {ops : Array Oper} {rest : List Oper} {o : Oper} {a : Act} {Q : Exit → Act → World → Prop} {w : World} (B : Nat) {v : Value} {ys zs : List G} (hown : OwnG w B v ys) {b off cap : Nat}
    (hc : ∀ j x, zs[j]? = some x → ∀ i, i < 3 → w.cell? ⟨b, off + j * 3 + i, none⟩ = (gCells x)[i]?) (hn : ys.length + zs.length ≤ 3000000) (hB : B ≤ w.heap.size)
    (hgd : o.guard = none) (sl x : Operand) (ho : o.op = .call { callee := .builtin .append, args := #[sl, x], argTypes := #[60, 60] })
    (hs : a.eval sl = v) (hx : a.eval x = .slice (some ⟨b, off, none⟩) zs.length cap)
    (h : ∀ v' w', OwnG w' B v' (ys ++ zs) → w.grownBy w' v.ownBlock → wpList Tryz.prog ops Q rest (a.put o.dst v') w') :
    wpList Tryz.prog ops Q (o :: rest) a w := by
  obtain ⟨i0, hi, hz0, hz1, hz2⟩ := info_parts info_glob
  refine wpList_append_own _ hgd sl x 60 ho B 66 i0 _ 3 32 Tryz.underlying60 hi hz0 hz1 hz2 rfl (by decide) v ys.length _ hs hown ⟨b, off, none⟩ zs.length cap (gcells zs) hx (gcells_len zs) ?c1 (fun u hu => gcells_one hu) ?c3 ?c4 hB ?_
  case c1 =>
    intro j u hj
    obtain ⟨q, r, y, rfl, hr, hq, hu⟩ := gcells_at zs j u hj
    have : (⟨b, off, none⟩ : Addr).add (q * 3 + r) = ⟨b, off + q * 3 + r, none⟩ := by unfold Addr.add; split <;> simp_all [Nat.add_assoc]
    rw [this, hc q y hq r hr, hu]
  case c3 => unfold maxLen; omega
  case c4 => omega
  intro v' w' h1 h2 _
  refine h v' w' ?_ h2
  unfold OwnG
  rw [List.length_append, gcells_app]
  exact h1
theorem below_appG {w0 w w' : World} {B : Nat} {v : Value} {ys : List G} (hb : Below B w0 w) (hown : OwnG w B v ys) (hB : B ≤ w.heap.size) (hg : w.grownBy w' v.ownBlock) : Below B w0 w' :=
  hb.grown hg hB (fun k hk => (hown.lt k hk).1)

theorem ids_are {L : List G} (hs : Sorted L) (hi : ∀ g, g ∈ L → (Lit.int .i64 g.id).wf = true ∧ 0 ≤ g.id) {ids : List Int} (hr : ids.Pairwise (· < ·)) (hm : ∀ i : Int, i ∈ ids ↔ (Lit.int .i64 i).wf = true ∧ (globF L (.int .i64 i)).isSome = true) : ids = L.map (·.id) := by
  refine rising_ext hr ?_ (fun i => ?_)
  · have := ids_rising hs (fun _ => true)
    rwa [List.filter_eq_self.2 (fun _ _ => rfl)] at this
  · rw [hm i]
    show _ ∧ ((atI L i).map globV).isSome = true ↔ _
    rw [Option.isSome_map, atI_has, hasG_iff, List.mem_map]
    constructor
    · rintro ⟨_, g, h1, h2⟩; exact ⟨g, h1, h2⟩
    · rintro ⟨g, h1, h2⟩; exact ⟨h2 ▸ (hi g h1).1, g, h1, h2⟩

set_option maxRecDepth 100000 in
set_option maxHeartbeats 2000000 in
theorem iglobs_any {w : World} {x : Nat} {L : List G} {N base : Nat} {col : Nat → Col} (H : Idx w x L N base col) :
    Calls Tryz.prog 40 #[.pointer (some ⟨x, 0, none⟩)] w fun e w' => ∃ v, e = .returned v ∧ OwnG w' w.heap.size v L ∧ Below w.heap.size w w' := by
  obtain ⟨most, bg, bl, bo, cl, co, Fl, ao, H⟩ := H
  have C0 := Lib.hid (imade_any H.obj)
  have c2 := H.obj.c2
  have CK := Lib.hid (keysG_any (some bg) w)
  have CS := Lib.hid (sortedG_any H.globs (by have := H.len; omega))
  have HLEN := Lib.hid H.len
  go_enter Tryz.func40, Tryz.ntmps40
  go_wp2_with fail
  refine C0.out.mono ?_
  rintro e w0 ⟨rfl, e0⟩
  rw [e0]
  clear e0 w0
  go_wp2_with fail
  refine CK.out.mono ?_
  rintro e w1 ⟨rfl, e1⟩
  rw [e1]
  clear e1 w1
  go_wp2_with fail
  refine CS.out.mono ?_
  rintro e w2 ⟨v, ids, rfl, hrise, hmem, hrow, hb2⟩
  obtain rfl := ids_are H.srt H.ids hrise hmem
  have hb1 : Below w.heap.size w (w.alloc (.cells #[.map (some bg)] 105)) := (Below.refl _ _).alloc (Nat.le_refl _) _
  have hb02 : Below w.heap.size w w2 := hb1.trans (hb2.mono hb1.size)
  have HB := Lib.hid hb02
  have HCL : Hid (∀ W (p : ByteArray), p.size ≤ 1000000 → Calls Tryz.prog 75 #[.string p] W fun e w' => e = .returned (.string p) ∧ Below W.heap.size W w') := Lib.hid (fun W p hp => clone_any p W hp)
  rw [List.length_map] at hrow
  obtain ⟨ia, ic, rfl⟩ : ∃ ia ic, v = .slice ia L.length ic := by
    rcases hrow.2 with ⟨rfl, h0⟩ | ⟨g, cap, cur, rfl, _⟩
    · exact ⟨none, 0, by rw [h0]⟩
    · exact ⟨_, _, rfl⟩
  have HR : Hid (∀ W, Below w2.heap.size w2 W → ∀ j (hj : j < L.length), ∃ b, ia = some ⟨b, 0, none⟩ ∧ W.cell? ⟨b, j, none⟩ = some (.int .i64 L[j].id) ∧ W.cell? ⟨x, 2, none⟩ = some (.map (some bg)) ∧ L[j].p.size ≤ 1000000 ∧
      (Instr.lookup 105 (.map (some bg)) (.int .i64 L[j].id) false).run Tryz.prog W = .ok (.agg #[.int .i64 L[j].id, .string L[j].p, .bool L[j].f]) W) := Lib.hid (fun W hW j hj => by
    have hW0 : Below w.heap.size w W := hb02.trans (hW.mono hb02.size)
    rcases hrow.2 with ⟨h0, h1⟩ | ⟨g, cap, cur, h0, _, hg, _⟩
    · omega
    · have hgm := List.getElem_mem hj
      injection h0 with e1 e2 e3
      refine ⟨g, e1, ?_, (H.obj.same (hW0.block x H.obj.lt)).c2, ?_, ?_⟩
      · have := hrow.cells (g := g) (by rw [e1]; rfl) j (.int .i64 L[j].id) (by simp [hj])
        rw [show (⟨g, 0, none⟩ : Addr).add j = ⟨g, j, none⟩ by unfold Addr.add; split <;> simp_all] at this
        rw [World.cell?_of_block (w := w2) (hW.block g (Array.getElem?_eq_some_iff.1 hg).1)]
        exact this
      · have := (check_pos (H.chk _ hgm)).2; omega
      · have := (H.globs.same (hW0.block bg H.globs.lt)).look (t := 105) lawI Tryz.underlying105 (zero_glob W) (keyI (H.ids _ hgm).1)
        rwa [show (globF L (.int .i64 L[j].id)).getD zeroG = globV L[j] by show ((atI L L[j].id).map globV).getD zeroG = globV L[j]; rw [atI_some H.srt hgm]; rfl] at this)
  have hlen : L.length ≤ 200 := H.len
  clear H hrow hmem hrise hb2 hb1 hb02 C0 CK CS c2
  go_wp2_with fail
  go_loopg [17, 3] L.length (fun gk s17 s3 wr => ∃ j : Nat, j + gk = L.length ∧ s17 = .int .i64 j ∧ Hid (OwnG wr w2.heap.size s3 (L.take j)) ∧ Hid (Below w2.heap.size w2 wr))
  case atStart => exact ⟨0, by omega, rfl, Lib.hid (OwnG.nil _ _), Lib.hid (Below.refl _ _)⟩
  case round =>
    obtain ⟨j, hjg, rfl, HO, HJ⟩ := hrel
    by_cases hj : j < L.length
    · have hjz : (j : Int) < (L.length : Int) := by omega
      obtain ⟨b, ea, k1, k2, hps, hlk⟩ := HR.out wr HJ.out j hj
      have HTK : Hid (L.take (j + 1) = L.take j ++ [L[j]]) := Lib.hid (by rw [List.take_add_one, List.getElem?_eq_getElem hj]; rfl)
      obtain ⟨g, hg⟩ : ∃ g, L[j] = g := ⟨_, rfl⟩
      rw [hg] at k1 hps hlk HTK
      obtain ⟨gi, gp, gf⟩ := g
      dsimp only at k1 hps hlk HTK
      subst ea
      have HC := Lib.hid (HCL.out (wr.alloc (.cells #[.int .i64 gi, .string gp, .bool gf] 66)) gp hps)
      clear hg hps
      go_wp2_with fail
      refine HC.out.mono ?_
      rintro e w4 ⟨rfl, hb4⟩
      have hz4 : (wr.alloc (.cells #[.int .i64 gi, .string gp, .bool gf] 66)).heap.size = wr.heap.size + 1 := World.size_alloc ..
      have hg4 : w4.heap[wr.heap.size]? = some (.cells #[.int .i64 gi, .string gp, .bool gf] 66 (0, 0)) := (hb4.block _ (by omega)).trans (World.alloc_heap_new wr _)
      have c0 : w4.cell? ⟨wr.heap.size, 0, none⟩ = some (.int .i64 gi) := by simp [World.cell?, hg4]
      have c1 : w4.cell? ⟨wr.heap.size, 1, none⟩ = some (.string gp) := by simp [World.cell?, hg4]
      have c2 : w4.cell? ⟨wr.heap.size, 2, none⟩ = some (.bool gf) := by simp [World.cell?, hg4]
      have f1 : w4.frozen? ⟨wr.heap.size, 1, none⟩ = false := by simp [World.frozen?, hg4]
      have hbr4 : Below wr.heap.size wr w4 := ((Below.refl _ wr).alloc (Nat.le_refl _) _).trans (hb4.mono (by omega))
      have KS : Hid (∀ W5, w4.setCell ⟨wr.heap.size, 1, none⟩ (.string gp) = W5 → (W5.cell? ⟨wr.heap.size, 0, none⟩ = some (.int .i64 gi) ∧ W5.cell? ⟨wr.heap.size, 1, none⟩ = some (.string gp) ∧ W5.cell? ⟨wr.heap.size, 2, none⟩ = some (.bool gf)) ∧ Hid (Below wr.heap.size wr W5)) := Lib.hid (fun W5 h5 => by
        rw [← h5]
        exact ⟨⟨(World.cell?_setCell_other _ _ _ _ (by simp)).trans c0, World.cell?_setCell_same _ _ _ c1, (World.cell?_setCell_other _ _ _ _ (by simp)).trans c2⟩, Lib.hid (hbr4.setCell (p := ⟨wr.heap.size, 1, none⟩) (Nat.le_refl _) _)⟩)
      clear hb4 hz4 hg4 hbr4 HC hlk
      go_upto_region 9 with fail
      obtain ⟨W5, hW5⟩ : ∃ W5, w4.setCell ⟨wr.heap.size, 1, none⟩ (.string gp) = W5 := ⟨_, rfl⟩
      obtain ⟨⟨k0, k1, k2⟩, HB5⟩ := KS.out W5 hW5
      rw [hW5]
      clear KS hW5 c0 c1 c2 f1
      have HJ5 : Hid (Below w2.heap.size w2 W5) := Lib.hid (HJ.out.trans (HB5.out.mono HJ.out.size))
      have HO5 : Hid (OwnG (W5.alloc (.cells #[.int .i64 gi, .string gp, .bool gf] 66)) w2.heap.size u3 (L.take j)) := Lib.hid (World.ownsRow.alloc (HO.out.later HB5.out) _)
      have hc6 : ∀ q y, [(⟨gi, gp, gf⟩ : G)][q]? = some y → ∀ i, i < 3 → (W5.alloc (.cells #[.int .i64 gi, .string gp, .bool gf] 66)).cell? ⟨W5.heap.size, 0 + q * 3 + i, none⟩ = (gCells y)[i]? := fun q y hy i hi => by
        have hq : q = 0 := by
          have := (List.getElem?_eq_some_iff.1 hy).1
          simp at this; omega
        subst hq
        have : (⟨gi, gp, gf⟩ : G) = y := by simpa using hy
        subst this
        rw [Nat.zero_mul, Nat.zero_add, World.cell?_alloc_new]
        match i, hi with
        | 0, _ => rfl
        | 1, _ => rfl
        | 2, _ => rfl
      have HC6 := Lib.hid hc6
      have HNL : Hid ((L.take j).length + 1 ≤ 3000000 ∧ w2.heap.size ≤ (W5.alloc (.cells #[.int .i64 gi, .string gp, .bool gf] 66)).heap.size) := Lib.hid (by
        have := HJ5.out.size
        rw [World.size_alloc, List.length_take]
        omega)
      clear hc6
      go_wp2_with (at_builtin; refine appG w2.heap.size HO5.out HC6.out HNL.out.1 HNL.out.2 rfl _ _ rfl rfl rfl ?_; intro v7 w7 ho7 hg7)
      have hJ7 := below_appG (HJ5.out.alloc HJ5.out.size _) HO5.out HNL.out.2 hg7
      rw [← HTK.out] at ho7
      go_roundg (L.length - (j + 1))
      case measure => omega
      case rel => exact ⟨j + 1, by omega, by go_num, Lib.hid ho7, Lib.hid hJ7⟩
    · have hjz : ¬ (j : Int) < (L.length : Int) := by omega
      obtain rfl : j = L.length := by omega
      have HF : Hid (OwnG wr w.heap.size u3 L ∧ Below w.heap.size w wr) := Lib.hid (by
        have ho := HO.out
        rw [List.take_length] at ho
        refine ⟨⟨ho.1, ?_⟩, HB.out.trans (HJ.out.mono HB.out.size)⟩
        rcases ho.2 with h | ⟨g, cap, cur, e, hB, r⟩
        · exact .inl h
        · exact .inr ⟨g, cap, cur, e, by have := HB.out.size; omega, r⟩)
      clear HO HJ HR HCL
      go_wp2
      go_ret
      exact ⟨_, rfl, HF.out.1, HF.out.2⟩
end Go.Proofs.YtnpgmekgmelamaaGreat
