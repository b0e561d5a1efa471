/-
  What is proved: what an index in memory is behind each store into one of its maps.
-/
import Derived.Test.YtnpgmekgmelamaaGreatIxAt
namespace Go.Proofs.YtnpgmekgmelamaaGreat
open Go.RowKit Go.Shelf Go.Maps

/-- As IdxAt, each map told of a list of its own. -/
structure Mid (W : World) (x : Nat) (Lg Ll Lo : List G) (N base : Nat) (col : Nat → Col) (most bg bl bo cl co : Nat) (Fl : List UInt8 → Option Value) (ao : Int → Nat) : Prop where
  obj : ObjAt W x most bg bl bo
  globs : MapL 3 W bg Lg.length (globF Lg)
  cln : cl ≤ N
  con : co ≤ N
  lits : MapL 9 W bl cl (litF Fl)
  rows : ∀ t v, Fl t = some v → ∃ (zs : List Int) (g cap : Nat), v = .slice (some ⟨g, 0, none⟩) zs.length cap ∧ W.ownsRow base 3 1 v zs.length (zs.map (Value.int .i64)) ∧ zs.Perm (under Ll t) ∧ zs ≠ [] ∧ col g = .row t
  nol : ∀ t, Fl t = none → ∀ g, g ∈ Ll → keyG g ≠ some t
  others : MapL 3 W bo co (otherF Lo ao)
  autos : ∀ g, g ∈ Lo → keyG g = none → ∃ lo hi, AutoIn lo hi W (ao g.id) (normP g.p) g.f ∧ ∀ k, lo ≤ k → k < hi → col k = .auto
  cx : col x = .obj
  cg : col bg = .globs
  cl' : col bl = .lits
  co' : col bo = .others
  bas : ∀ k, col k ≠ .free → base ≤ k ∧ k < W.heap.size

section
variable {W : World} {x : Nat} {Lg Ll Lo : List G} {N base : Nat} {col : Nat → Col} {most bg bl bo cl co : Nat} {Fl : List UInt8 → Option Value} {ao : Int → Nat}

theorem IdxAt.mid {L : List G} (h : IdxAt W x L N base col most bg bl bo cl co Fl ao) : Mid W x L L L N base col most bg bl bo cl co Fl ao :=
  ⟨h.obj, h.globs, h.cln, h.con, h.lits, h.rows, h.nol, h.others, h.autos, h.cx, h.cg, h.cl', h.co', h.bas⟩
theorem Mid.idx {L : List G} (h : Mid W x L L L N base col most bg bl bo cl co Fl ao) (hm : 1 ≤ most ∧ most ≤ 256) (hs : Sorted L) (hi : ∀ g, g ∈ L → (Lit.int .i64 g.id).wf = true ∧ 0 ≤ g.id) (hc : ∀ g, g ∈ L → checkN g.p.size = 0) (hl : L.length ≤ 200) : IdxAt W x L N base col most bg bl bo cl co Fl ao :=
  ⟨h.obj, hm, hs, hi, hc, hl, h.globs, h.cln, h.con, h.lits, h.rows, h.nol, h.others, h.autos, h.cx, h.cg, h.cl', h.co', h.bas⟩

theorem Mid.drew (h : Mid W x Lg Ll Lo N base col most bg bl bo cl co Fl ao) : Mid W.drew x Lg Ll Lo N base col most bg bl bo cl co Fl ao :=
  ⟨h.obj, h.globs, h.cln, h.con, h.lits, h.rows, h.nol, h.others, h.autos, h.cx, h.cg, h.cl', h.co', h.bas⟩
theorem Mid.more {N' : Nat} (h : Mid W x Lg Ll Lo N base col most bg bl bo cl co Fl ao) (hn : N ≤ N') : Mid W x Lg Ll Lo N' base col most bg bl bo cl co Fl ao :=
  ⟨h.obj, h.globs, Nat.le_trans h.cln hn, Nat.le_trans h.con hn, h.lits, h.rows, h.nol, h.others, h.autos, h.cx, h.cg, h.cl', h.co', h.bas⟩

/-- One map's block alone has changed, and with it what that map is told of. -/
theorem Mid.keepRows {W' : World} {b : Nat} (h : Mid W x Lg Ll Lo N base col most bg bl bo cl co Fl ao) (hg : W.grownBy W' (some b)) (hb : ∀ t, col b ≠ .row t) :
    ∀ t v, Fl t = some v → ∃ (zs : List Int) (g cap : Nat), v = .slice (some ⟨g, 0, none⟩) zs.length cap ∧ W'.ownsRow base 3 1 v zs.length (zs.map (Value.int .i64)) ∧ zs.Perm (under Ll t) ∧ zs ≠ [] ∧ col g = .row t := fun t v hv => by
  obtain ⟨zs, g, cap, rfl, h1, h2, h3, h4⟩ := h.rows t v hv
  refine ⟨zs, g, cap, rfl, row_kept h1 (fun k e => ?_), h2, h3, h4⟩
  have : g = k := by injection e
  subst this
  exact hg.block g (h1.lt g rfl).2 (fun e2 => by
    injection e2 with e2
    subst e2
    exact hb t h4)
theorem Mid.keepAutos {W' : World} {b : Nat} (h : Mid W x Lg Ll Lo N base col most bg bl bo cl co Fl ao) (hg : W.grownBy W' (some b)) (hb : col b ≠ .auto) :
    ∀ g, g ∈ Lo → keyG g = none → ∃ lo hi, AutoIn lo hi W' (ao g.id) (normP g.p) g.f ∧ ∀ k, lo ≤ k → k < hi → col k = .auto := fun g hgm hk => by
  obtain ⟨lo, hi, h1, h2⟩ := h.autos g hgm hk
  exact ⟨lo, hi, h1.same hg.size (fun k a c => hg.block k (h.bas k (by rw [h2 k a c]; decide)).2 (fun e => by
    injection e with e
    subst e
    exact hb (h2 k a c))), h2⟩
theorem Mid.keepBas {W' : World} {b : Nat} (h : Mid W x Lg Ll Lo N base col most bg bl bo cl co Fl ao) (hg : W.grownBy W' (some b)) : ∀ k, col k ≠ .free → base ≤ k ∧ k < W'.heap.size := fun k hk => by
  have := h.bas k hk
  have := hg.size
  omega
theorem Mid.blk {W' : World} {b b' : Nat} (h : Mid W x Lg Ll Lo N base col most bg bl bo cl co Fl ao) (hg : W.grownBy W' (some b)) (hc : col b' ≠ .free) (hne : col b' ≠ col b) : W'.heap[b']? = W.heap[b']? :=
  hg.block b' (h.bas b' hc).2 (fun e => by
    injection e with e
    subst e
    exact hne rfl)
/-- The step that such a store is. -/
theorem Mid.step {W' : World} {b : Nat} (hg : W.grownBy W' (some b)) (hc : col b ≠ .free) : Step col W col W' :=
  ⟨⟨hg.os, hg.tape, hg.output, hg.size, fun k hk => absurd hk (Nat.not_lt_zero _)⟩, fun _ _ => rfl, fun k hk hf => hg.block k hk (fun e => by
    injection e with e
    subst e
    exact hc hf)⟩

theorem Mid.globsTo {W' : World} {L' : List G} (h : Mid W x Lg Ll Lo N base col most bg bl bo cl co Fl ao) (hg : W.grownBy W' (some bg)) (hm : MapL 3 W' bg L'.length (globF L')) : Mid W' x L' Ll Lo N base col most bg bl bo cl co Fl ao :=
  ⟨h.obj.same (h.blk hg (by rw [h.cx]; decide) (by rw [h.cx, h.cg]; decide)), hm, h.cln, h.con, h.lits.same (h.blk hg (by rw [h.cl']; decide) (by rw [h.cl', h.cg]; decide)), h.keepRows hg (fun t => by rw [h.cg]; exact fun e => by cases e), h.nol,
    h.others.same (h.blk hg (by rw [h.co']; decide) (by rw [h.co', h.cg]; decide)), h.keepAutos hg (by rw [h.cg]; decide), h.cx, h.cg, h.cl', h.co', h.keepBas hg⟩

/-- globs[id] = g. -/
theorem Mid.globsPut (h : Mid W x Lg Ll Lo N base col most bg bl bo cl co Fl ao) (hs : Sorted Lg) (g : G) (hi : (Lit.int .i64 g.id).wf = true) (hn : hasG Lg g.id = false) (hl : Lg.length < 200) :
    ∃ w', (Instr.mapUpdate 105 (.map (some bg)) (.int .i64 g.id) (globV g)).run Tryz.prog W = .ok () w' ∧ Mid w' x (insG g Lg) Ll Lo N base col most bg bl bo cl co Fl ao ∧ Step col W col w' := by
  obtain ⟨w', hrun, hF, hg⟩ := h.globs.put (t := 105) lawI Tryz.underlying105 (by unfold maxLen; omega) (keyI hi) (globV g)
  have he : (globF Lg (.int .i64 g.id)).isSome = false := by
    show ((atI Lg g.id).map globV).isSome = false
    rw [atI_none hn]; rfl
  rw [he] at hF
  refine ⟨w', hrun, h.globsTo hg ?_, Mid.step hg (by rw [h.cg]; decide)⟩
  have := hF (globF (insG g Lg)) (fun y hy => by
    obtain ⟨j, rfl, _⟩ := keysI hy
    show (_ → (atI (insG g Lg) j).map globV = _) ∧ (_ → (atI (insG g Lg) j).map globV = (atI Lg j).map globV)
    rw [atI_ins hs hn]
    refine ⟨fun e => ?_, fun e => ?_⟩
    · replace e := (Lit.int.inj e).2
      rw [if_pos e]; rfl
    · rw [if_neg (fun e2 => e (by rw [e2]))])
  rw [insG_len]
  exact this
/-- delete(globs, id). -/
theorem Mid.globsDel (h : Mid W x Lg Ll Lo N base col most bg bl bo cl co Fl ao) (hs : Sorted Lg) (g : G) (hi : (Lit.int .i64 g.id).wf = true) (hm : g ∈ Lg) (ty : TypeId) :
    ∃ w', (Builtin.delete_ #[105, 3] ty #[.map (some bg), .int .i64 g.id]).run Tryz.prog W = .ok (.tuple #[]) w' ∧ Mid w' x (delG g.id Lg) Ll Lo N base col most bg bl bo cl co Fl ao ∧ Step col W col w' := by
  obtain ⟨w', hrun, hF, hg⟩ := h.globs.del (t := 105) lawI Tryz.underlying105 (keyI hi) ty
  have he : (globF Lg (.int .i64 g.id)).isSome = true := by
    show ((atI Lg g.id).map globV).isSome = true
    rw [atI_some hs hm]; rfl
  rw [he] at hF
  refine ⟨w', hrun, h.globsTo hg ?_, Mid.step hg (by rw [h.cg]; decide)⟩
  have := hF (globF (delG g.id Lg)) (fun y hy => by
    obtain ⟨j, rfl, _⟩ := keysI hy
    show (_ → (atI (delG g.id Lg) j).map globV = _) ∧ (_ → (atI (delG g.id Lg) j).map globV = (atI Lg j).map globV)
    rw [atI_del hs]
    refine ⟨fun e => ?_, fun e => ?_⟩
    · replace e := (Lit.int.inj e).2
      rw [if_pos e]; rfl
    · rw [if_neg (fun e2 => e (by rw [e2]))])
  have e := delG_len hs hm
  rw [if_pos rfl, show Lg.length - 1 = (delG g.id Lg).length by omega] at this
  exact this

theorem Mid.othersTo {W' : World} {L' : List G} {co2 N2 : Nat} {ao' : Int → Nat} {col' : Nat → Col} (h : Mid W x Lg Ll Lo N base col most bg bl bo cl co Fl ao) (hg : W.grownBy W' (some bo)) (hcol : ∀ k, k < W.heap.size → col k ≠ .free → col' k = col k)
    (hbas : ∀ k, col' k ≠ .free → base ≤ k ∧ k < W'.heap.size) (hN : N ≤ N2) (hco : co2 ≤ N2) (hm : MapL 3 W' bo co2 (otherF L' ao'))
    (ha : ∀ g, g ∈ L' → keyG g = none → ∃ lo hi, AutoIn lo hi W' (ao' g.id) (normP g.p) g.f ∧ ∀ k, lo ≤ k → k < hi → col' k = .auto) : Mid W' x Lg Ll L' N2 base col' most bg bl bo cl co2 Fl ao' := by
  have hcs : ∀ k, col k ≠ .free → col' k = col k := fun k hk => hcol k (h.bas k hk).2 hk
  refine ⟨h.obj.same (h.blk hg (by rw [h.cx]; decide) (by rw [h.cx, h.co']; decide)), h.globs.same (h.blk hg (by rw [h.cg]; decide) (by rw [h.cg, h.co']; decide)), Nat.le_trans h.cln hN, hco, h.lits.same (h.blk hg (by rw [h.cl']; decide) (by rw [h.cl', h.co']; decide)), fun t v hv => ?_, h.nol, hm, ha,
    (hcs x (by rw [h.cx]; decide)).trans h.cx, (hcs bg (by rw [h.cg]; decide)).trans h.cg, (hcs bl (by rw [h.cl']; decide)).trans h.cl', (hcs bo (by rw [h.co']; decide)).trans h.co', hbas⟩
  obtain ⟨zs, g, cap, h1, h2, h3, h4, h5⟩ := h.keepRows hg (fun t => by rw [h.co']; exact fun e => by cases e) t v hv
  exact ⟨zs, g, cap, h1, h2, h3, h4, (hcs g (by rw [h5]; exact fun e => by cases e)).trans h5⟩
/-- others[id] = auto. -/
theorem Mid.othersPut (h : Mid W x Lg Ll Lo N base col most bg bl bo cl co Fl ao) (hs : Sorted Lo) (hN : N < 1000000) (g : G) (hi : (Lit.int .i64 g.id).wf = true) (hn : hasG Lo g.id = false) (hk : keyG g = none) {b lo hi' : Nat} (ha : AutoIn lo hi' W b (normP g.p) g.f) (hfr : ∀ k, lo ≤ k → k < hi' → col k = .free) (hlo : base ≤ lo) :
    ∃ w', (Instr.mapUpdate 107 (.map (some bo)) (.int .i64 g.id) (.pointer (some ⟨b, 0, none⟩))).run Tryz.prog W = .ok () w' ∧ ∃ co' ao', Mid w' x Lg Ll (insG g Lo) (N + 1) base (fun k => if lo ≤ k ∧ k < hi' then .auto else col k) most bg bl bo cl co' Fl ao' ∧ W.grownBy w' (some bo) := by
  obtain ⟨w', hrun, hF, hg⟩ := h.others.put (t := 107) lawI Tryz.underlying107 (by have := h.con; unfold maxLen; omega) (keyI hi) (.pointer (some ⟨b, 0, none⟩))
  have hhi : hi' ≤ W.heap.size := by obtain ⟨W0, _, h2, _⟩ := ha; exact h2
  have hgz := hg.size
  have hcc : ∀ k, k < W.heap.size → col k ≠ .free → (if lo ≤ k ∧ k < hi' then Col.auto else col k) = col k := fun k _ hc => by
    rw [if_neg (fun ⟨e1, e2⟩ => hc (hfr k e1 e2))]
  refine ⟨w', hrun, if (otherF Lo ao (.int .i64 g.id)).isSome = true then co else co + 1, fun j => if j = g.id then b else ao j, h.othersTo hg hcc (fun k hc => ?_) (Nat.le_succ _) ?_ (hF _ fun y hy => ?_) (fun g' hg' hk' => ?_), hg⟩
  · by_cases e : lo ≤ k ∧ k < hi'
    · omega
    · rw [if_neg e] at hc
      have := h.bas k hc
      omega
  · have := h.con
    split <;> omega
  · obtain ⟨j, rfl, _⟩ := keysI hy
    show (_ → (atI (insG g Lo) j).bind _ = _) ∧ (_ → (atI (insG g Lo) j).bind _ = (atI Lo j).bind _)
    rw [atI_ins hs hn]
    refine ⟨fun e => ?_, fun e => ?_⟩
    · replace e := (Lit.int.inj e).2
      rw [if_pos e, e]
      show (if keyG g = none then some (Value.pointer (some ⟨if g.id = g.id then b else ao g.id, 0, none⟩)) else none) = _
      rw [if_pos hk, if_pos rfl]
    · have hne : j ≠ g.id := fun e2 => e (by rw [e2])
      rw [if_neg hne]
      cases atI Lo j with
      | none => rfl
      | some g' =>
        show (if keyG g' = none then some (Value.pointer (some ⟨if j = g.id then b else ao j, 0, none⟩)) else none) = (if keyG g' = none then some (Value.pointer (some ⟨ao j, 0, none⟩)) else none)
        rw [if_neg hne]
  · rcases insG_mem.1 hg' with rfl | hg'
    · refine ⟨lo, hi', ?_, fun k e1 e2 => if_pos ⟨e1, e2⟩⟩
      rw [if_pos rfl]
      exact ha.same hgz (fun k e1 e2 => hg.block k (by omega) (fun e => by
        injection e with e
        have := hfr k e1 e2
        rw [e, h.co'] at this
        cases this))
    · obtain ⟨lo2, hi2, h1, h2⟩ := h.keepAutos hg (by rw [h.co']; decide) g' hg' hk'
      refine ⟨lo2, hi2, ?_, fun k e1 e2 => ?_⟩
      · rw [if_neg (hasG_no hn hg')]; exact h1
      · rw [if_neg (fun ⟨e3, e4⟩ => by have := hfr k e3 e4; rw [h2 k e1 e2] at this; cases this)]
        exact h2 k e1 e2
/-- delete(others, id). -/
theorem Mid.othersDel (h : Mid W x Lg Ll Lo N base col most bg bl bo cl co Fl ao) (hs : Sorted Lo) (i : Int) (hi : (Lit.int .i64 i).wf = true) (ty : TypeId) :
    ∃ w', (Builtin.delete_ #[107, 3] ty #[.map (some bo), .int .i64 i]).run Tryz.prog W = .ok (.tuple #[]) w' ∧ ∃ co', Mid w' x Lg Ll (delG i Lo) N base col most bg bl bo cl co' Fl ao ∧ Step col W col w' := by
  obtain ⟨w', hrun, hF, hg⟩ := h.others.del (t := 107) lawI Tryz.underlying107 (keyI hi) ty
  refine ⟨w', hrun, if (otherF Lo ao (.int .i64 i)).isSome = true then co - 1 else co, h.othersTo hg (fun _ _ _ => rfl) (h.keepBas hg) (Nat.le_refl _) ?_ (hF _ fun y hy => ?_) (fun g' hg' hk' => h.keepAutos hg (by rw [h.co']; decide) g' (delG_mem.1 hg').1 hk'), Mid.step hg (by rw [h.co']; decide)⟩
  · have := h.con
    split <;> omega
  · obtain ⟨j, rfl, _⟩ := keysI hy
    show (_ → (atI (delG i Lo) j).bind _ = _) ∧ (_ → (atI (delG i Lo) j).bind _ = (atI Lo j).bind _)
    rw [atI_del hs]
    refine ⟨fun e => ?_, fun e => ?_⟩
    · replace e := (Lit.int.inj e).2
      rw [if_pos e]; rfl
    · rw [if_neg (fun e2 => e (by rw [e2]))]
/-- A literal is none of the others. -/
theorem Mid.othersSkip (h : Mid W x Lg Ll Lo N base col most bg bl bo cl co Fl ao) (hs : Sorted Lo) (g : G) (hn : hasG Lo g.id = false) {k : List UInt8} (hk : keyG g = some k) : Mid W x Lg Ll (insG g Lo) N base col most bg bl bo cl co Fl ao :=
  ⟨h.obj, h.globs, h.cln, h.con, h.lits, h.rows, h.nol, h.others.congr (fun y hy => by
    obtain ⟨j, rfl, _⟩ := keysI hy
    show (atI (insG g Lo) j).bind _ = (atI Lo j).bind _
    rw [atI_ins hs hn]
    by_cases e : j = g.id
    · rw [if_pos e, e, atI_none hn]
      show (if keyG g = none then _ else none) = none
      rw [hk]; rfl
    · rw [if_neg e]), fun g' hg' hk' => (by
    rcases insG_mem.1 hg' with rfl | hg'
    · rw [hk] at hk'; cases hk'
    · exact h.autos g' hg' hk'), h.cx, h.cg, h.cl', h.co', h.bas⟩
theorem Mid.othersOut (h : Mid W x Lg Ll Lo N base col most bg bl bo cl co Fl ao) (hs : Sorted Lo) (g : G) (hm : g ∈ Lo) {k : List UInt8} (hk : keyG g = some k) : Mid W x Lg Ll (delG g.id Lo) N base col most bg bl bo cl co Fl ao :=
  ⟨h.obj, h.globs, h.cln, h.con, h.lits, h.rows, h.nol, h.others.congr (fun y hy => by
    obtain ⟨j, rfl, _⟩ := keysI hy
    show (atI (delG g.id Lo) j).bind _ = (atI Lo j).bind _
    rw [atI_del hs]
    by_cases e : j = g.id
    · rw [if_pos e, e, atI_some hs hm]
      show none = (if keyG g = none then _ else none)
      rw [hk]; rfl
    · rw [if_neg e]), fun g' hg' hk' => h.autos g' (delG_mem.1 hg').1 hk', h.cx, h.cg, h.cl', h.co', h.bas⟩

theorem under_ins (g : G) (L : List G) (t : List UInt8) : (under (insG g L) t).Perm (if keyG g = some t then g.id :: under L t else under L t) := by
  have h1 : (under (insG g L) t).Perm (under (g :: L) t) := ((insG_perm g L).filter _).map _
  refine h1.trans ?_
  unfold under
  by_cases e : keyG g = some t
  · rw [if_pos e, List.filter_cons_of_pos (by simpa using e)]
    exact .refl _
  · rw [if_neg e, List.filter_cons_of_neg (by simpa using e)]
theorem under_del (i : Int) (L : List G) (t : List UInt8) : under (delG i L) t = (under L t).filter (· != i) := by
  unfold under delG
  rw [List.filter_map, List.filter_filter, List.filter_filter]
  congr 1
  apply List.filter_congr
  intro g _
  simp [Bool.and_comm]
/-- What is no literal is in no list. -/
theorem Mid.litsSkip (h : Mid W x Lg Ll Lo N base col most bg bl bo cl co Fl ao) (g : G) (hk : keyG g = none) : Mid W x Lg (insG g Ll) Lo N base col most bg bl bo cl co Fl ao :=
  ⟨h.obj, h.globs, h.cln, h.con, h.lits, fun t v hv => (by
    obtain ⟨zs, b, cap, h1, h2, h3, h4, h5⟩ := h.rows t v hv
    have := under_ins g Ll t
    rw [if_neg (by rw [hk]; exact fun e => by cases e)] at this
    exact ⟨zs, b, cap, h1, h2, h3.trans this.symm, h4, h5⟩), fun t ht g' hg' => (by
    rcases insG_mem.1 hg' with rfl | hg'
    · rw [hk]; exact fun e => by cases e
    · exact h.nol t ht g' hg'), h.others, h.autos, h.cx, h.cg, h.cl', h.co', h.bas⟩
theorem Mid.litsOut {L : List G} (h : Mid W x Lg L Lo N base col most bg bl bo cl co Fl ao) (hs : Sorted L) (g : G) (hm : g ∈ L) (hk : keyG g = none) : Mid W x Lg (delG g.id L) Lo N base col most bg bl bo cl co Fl ao :=
  ⟨h.obj, h.globs, h.cln, h.con, h.lits, fun t v hv => (by
    obtain ⟨zs, b, cap, h1, h2, h3, h4, h5⟩ := h.rows t v hv
    refine ⟨zs, b, cap, h1, h2, ?_, h4, h5⟩
    rw [under_del, List.filter_eq_self.2]
    · exact h3
    · intro j hj
      unfold under at hj
      obtain ⟨g', hg', rfl⟩ := List.mem_map.1 hj
      obtain ⟨h6, h7⟩ := List.mem_filter.1 hg'
      simp only [bne_iff_ne, ne_eq]
      intro e
      rw [sorted_one hs h6 hm e, hk] at h7
      simp at h7), fun t ht g' hg' => h.nol t ht g' (delG_mem.1 hg').1, h.others, h.autos, h.cx, h.cg, h.cl', h.co', h.bas⟩
end
end Go.Proofs.YtnpgmekgmelamaaGreat
