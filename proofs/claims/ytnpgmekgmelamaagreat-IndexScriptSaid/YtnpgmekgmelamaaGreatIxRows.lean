/-
  What is proved: what an index in memory is behind a store into, or a deletion from, its map of literals.
-/
import Derived.Test.YtnpgmekgmelamaaGreatIxWorld
import Derived.Sort.OwnSortedInts
namespace Go.Proofs.YtnpgmekgmelamaaGreat
open Go.RowKit Go.Shelf Go.Maps

section
variable {W : World} {x : Nat} {Lg Ll Lo : List G} {N base : Nat} {col : Nat → Col} {most bg bl bo cl co : Nat} {Fl : List UInt8 → Option Value} {ao : Int → Nat}

/-- The list of k and the map of literals have changed; nothing else of the index. -/
theorem Mid.litsTo {W' : World} {L' : List G} {cl2 N2 : Nat} {Fl' : List UInt8 → Option Value} {col' : Nat → Col} (h : Mid W x Lg Ll Lo N base col most bg bl bo cl co Fl ao) (k : List UInt8) (hz : W.heap.size ≤ W'.heap.size)
    (hkeep : ∀ b, b < W.heap.size → col b ≠ .row k → b ≠ bl → W'.heap[b]? = W.heap[b]?) (hcol : ∀ b, b < W.heap.size → col' b = col b)
    (hbas : ∀ b, col' b ≠ .free → base ≤ b ∧ b < W'.heap.size) (hN : N ≤ N2) (hcl : cl2 ≤ N2) (hm : MapL 9 W' bl cl2 (litF Fl'))
    (hF : ∀ t, t ≠ k → Fl' t = Fl t) (hu : ∀ t, t ≠ k → (under Ll t).Perm (under L' t)) (hn : ∀ t, t ≠ k → ∀ g, g ∈ L' → keyG g = some t → g ∈ Ll)
    (hr : ∀ v, Fl' k = some v → ∃ (zs : List Int) (g cap : Nat), v = .slice (some ⟨g, 0, none⟩) zs.length cap ∧ W'.ownsRow base 3 1 v zs.length (zs.map (Value.int .i64)) ∧ zs.Perm (under L' k) ∧ zs ≠ [] ∧ col' g = .row k)
    (hk0 : Fl' k = none → ∀ g, g ∈ L' → keyG g ≠ some k) : Mid W' x Lg L' Lo N2 base col' most bg bl bo cl2 co Fl' ao := by
  have hb : ∀ b, col b ≠ .free → col b ≠ .row k → b ≠ bl → W'.heap[b]? = W.heap[b]? := fun b h1 h2 h3 => hkeep b (h.bas b h1).2 h2 h3
  have hcs : ∀ b, col b ≠ .free → col' b = col b := fun b hk => hcol b (h.bas b hk).2
  have nl : ∀ b, col b ≠ .lits → b ≠ bl := fun b hc e => hc (by rw [e]; exact h.cl')
  refine ⟨h.obj.same (hb x (by rw [h.cx]; decide) (by rw [h.cx]; exact fun e => by cases e) (nl x (by rw [h.cx]; decide))), h.globs.same (hb bg (by rw [h.cg]; decide) (by rw [h.cg]; exact fun e => by cases e) (nl bg (by rw [h.cg]; decide))), hcl, Nat.le_trans h.con hN, hm, fun t v hv => ?_, fun t ht g hg => ?_,
    h.others.same (hb bo (by rw [h.co']; decide) (by rw [h.co']; exact fun e => by cases e) (nl bo (by rw [h.co']; decide))), fun g hg hk => ?_,
    (hcs x (by rw [h.cx]; decide)).trans h.cx, (hcs bg (by rw [h.cg]; decide)).trans h.cg, (hcs bl (by rw [h.cl']; decide)).trans h.cl', (hcs bo (by rw [h.co']; decide)).trans h.co', hbas⟩
  · by_cases e : t = k
    · subst e; exact hr v hv
    · rw [hF t e] at hv
      obtain ⟨zs, g, cap, rfl, h1, h2, h3, h4⟩ := h.rows t v hv
      refine ⟨zs, g, cap, rfl, row_kept h1 (fun b e2 => ?_), h2.trans (hu t e), h3, (hcs g (by rw [h4]; exact fun e => by cases e)).trans h4⟩
      have : g = b := by injection e2
      subst this
      exact hb g (by rw [h4]; exact fun e => by cases e) (by rw [h4]; exact fun e3 => e (by injection e3)) (nl g (by rw [h4]; exact fun e => by cases e))
  · by_cases e : t = k
    · subst e; exact hk0 ht g hg
    · rw [hF t e] at ht
      exact fun e2 => h.nol t ht g (hn t e g hg e2) e2
  · obtain ⟨lo, hi, h1, h2⟩ := h.autos g hg hk
    exact ⟨lo, hi, h1.same hz (fun b a c => hb b (by rw [h2 b a c]; decide) (by rw [h2 b a c]; exact fun e => by cases e) (nl b (by rw [h2 b a c]; decide))), fun b a c => (hcs b (by rw [h2 b a c]; decide)).trans (h2 b a c)⟩

theorem keyStr {k : List UInt8} (hk : k.length ≤ maxLen) : keyOf Tryz.prog 9 (.string (str k)) = some (.string k) := by
  have := keyS (s := str k) (by rw [str_size]; exact hk)
  rwa [str_data] at this
theorem litF_put {Fl : List UInt8 → Option Value} {k : List UInt8} {o : Option Value} (y : Lit) : (y = .string k → litF (fun t => if t = k then o else Fl t) y = o) ∧ (y ≠ .string k → litF (fun t => if t = k then o else Fl t) y = litF Fl y) := by
  refine ⟨fun e => ?_, fun e => ?_⟩
  · rw [e]
    show (if k = k then o else Fl k) = o
    rw [if_pos rfl]
  · cases y with
    | string t =>
      show (if t = k then o else Fl t) = Fl t
      rw [if_neg (fun e2 => e (by rw [e2]))]
    | _ => rfl

/-- literals[k] = append(literals[k], id). -/
theorem Mid.litsPut (h : Mid W x Lg Ll Lo N base col most bg bl bo cl co Fl ao) (g : G) {k : List UInt8} (hk : keyG g = some k) (hkl : k.length ≤ maxLen) (hN : N < 1000000) {own : Option Nat} {zs : List Int} (hperm : zs.Perm (under Ll k)) (hcol : ∀ b, own = some b → col b = .row k)
    {W1 w8 : World} (hW1 : Below W.heap.size W W1) {gg cap : Nat} (hown : w8.ownsRow base 3 1 (.slice (some ⟨gg, 0, none⟩) (zs.length + 1) cap) (zs.length + 1) (zs.map (Value.int .i64) ++ [.int .i64 g.id])) (hg : W1.grownBy w8 own) (hat : own = some gg ∨ W.heap.size ≤ gg) :
    ∃ w9, (Instr.mapUpdate 106 (.map (some bl)) (.string (str k)) (.slice (some ⟨gg, 0, none⟩) (zs.length + 1) cap)).run Tryz.prog w8 = .ok () w9 ∧ ∃ col' cl' Fl', Mid w9 x Lg (insG g Ll) Lo (N + 1) base col' most bg bl bo cl' co Fl' ao ∧ Step col W col' w9 := by
  have hz1 := hW1.size
  have hz8 := hg.size
  have keep8 : ∀ b, b < W.heap.size → col b ≠ .row k → w8.heap[b]? = W.heap[b]? := fun b hb hc => (hg.block b (by omega) (fun e => hc (hcol b e.symm))).trans (hW1.block b hb)
  have hbl := (h.bas bl (by rw [h.cl']; decide)).2
  obtain ⟨w9, hrun, hF, hg9⟩ := (h.lits.same (keep8 bl hbl (by rw [h.cl']; exact fun e => by cases e))).put (t := 106) lawS Tryz.underlying106 (by have := h.cln; unfold maxLen; omega) (keyStr hkl) (.slice (some ⟨gg, 0, none⟩) (zs.length + 1) cap)
  have hz9 := hg9.size
  have hgg := hown.lt gg rfl
  have hggc : ∀ b, b < W.heap.size → (if b = gg then Col.row k else col b) = col b := fun b hb => by
    by_cases e : b = gg
    · rw [if_pos e]
      rcases hat with e2 | e2
      · rw [e]; exact (hcol gg e2).symm
      · omega
    · rw [if_neg e]
  have keep9 : ∀ b, b < W.heap.size → col b ≠ .row k → b ≠ bl → w9.heap[b]? = W.heap[b]? := fun b hb hc hne => (hg9.block b (by omega) (fun e => hne (by injection e))).trans (keep8 b hb hc)
  have hggl : gg ≠ bl := fun e => by
    rcases hat with e2 | e2
    · have := hcol gg e2
      rw [e, h.cl'] at this
      cases this
    · omega
  have hui := under_ins g Ll k
  rw [if_pos hk] at hui
  refine ⟨w9, hrun, fun b => if b = gg then .row k else col b, if (litF Fl (.string k)).isSome = true then cl else cl + 1, fun t => if t = k then some (.slice (some ⟨gg, 0, none⟩) (zs.length + 1) cap) else Fl t, h.litsTo k (by omega) keep9 hggc (fun b hb => ?_) (Nat.le_succ _) ?_ (hF _ fun y _ => litF_put y) (fun t e => if_neg e) (fun t e => ?_) (fun t e g' hg' hk' => ?_) (fun v hv => ?_) (fun e => ?_), ?_⟩
  · by_cases e : b = gg
    · subst e; omega
    · rw [if_neg e] at hb
      have := h.bas b hb; omega
  · have := h.cln
    split <;> omega
  · have := under_ins g Ll t
    rw [if_neg (by rw [hk]; exact fun e2 => e (Option.some.inj e2).symm)] at this
    exact this.symm
  · rcases insG_mem.1 hg' with rfl | hg'
    · rw [hk] at hk'
      injection hk' with hk'
      exact absurd hk'.symm e
    · exact hg'
  · have hv2 : Value.slice (some ⟨gg, 0, none⟩) (zs.length + 1) cap = v := by
      rw [if_pos rfl] at hv
      exact Option.some.inj hv
    refine ⟨zs ++ [g.id], gg, cap, by rw [← hv2]; simp, ?_, ?_, by simp, if_pos rfl⟩
    · rw [← hv2, List.length_append, List.map_append]
      exact row_kept hown (fun b e => hg9.block b (hown.lt b e).2 (fun e2 => hggl (by
        have e3 : gg = b := by injection e
        rw [e3]
        injection e2)))
    · refine (List.perm_append_comm (l₁ := zs) (l₂ := [g.id])).trans ?_
      exact (hperm.cons g.id).trans hui.symm
  · rw [if_pos rfl] at e
    cases e
  · refine ⟨⟨by rw [hg9.os, hg.os, hW1.os], by rw [hg9.tape, hg.tape, hW1.tape], by rw [hg9.output, hg.output, hW1.output], by omega, fun b hb => absurd hb (Nat.not_lt_zero _)⟩, hggc, fun b hb hf => keep9 b hb (by rw [hf]; exact fun e => by cases e) (fun e => by rw [e, h.cl'] at hf; cases hf)⟩

theorem under_other {L : List G} (hs : Sorted L) {g : G} (hm : g ∈ L) {k t : List UInt8} (hk : keyG g = some k) (ht : t ≠ k) : under (delG g.id L) t = under L t := by
  rw [under_del, List.filter_eq_self.2]
  intro j hj
  unfold under at hj
  obtain ⟨g', hg', rfl⟩ := List.mem_map.1 hj
  obtain ⟨h6, h7⟩ := List.mem_filter.1 hg'
  simp only [bne_iff_ne, ne_eq]
  intro e
  rw [sorted_one hs h6 hm e, hk] at h7
  simp only [beq_iff_eq, Option.some.injEq] at h7
  exact ht h7.symm

/-- The list of k shortened, and stored back. -/
theorem Mid.litsCut (h : Mid W x Lg Ll Lo N base col most bg bl bo cl co Fl ao) (hs : Sorted Ll) (g : G) (hm : g ∈ Ll) {k : List UInt8} (hk : keyG g = some k) (hkl : k.length ≤ maxLen) (hN : N < 1000000) {b cap : Nat} {zs : List Int} (hperm : zs.Perm (under Ll k)) (hcol : col b = .row k)
    {w8 : World} (hg : W.grownBy w8 (some b)) (hown : w8.ownsRow base 3 1 (.slice (some ⟨b, 0, none⟩) (zs.filter (· != g.id)).length cap) (zs.filter (· != g.id)).length ((zs.filter (· != g.id)).map (Value.int .i64))) (hne : zs.filter (· != g.id) ≠ []) :
    ∃ w9, (Instr.mapUpdate 106 (.map (some bl)) (.string (str k)) (.slice (some ⟨b, 0, none⟩) (zs.filter (· != g.id)).length cap)).run Tryz.prog w8 = .ok () w9 ∧ ∃ cl' Fl', Mid w9 x Lg (delG g.id Ll) Lo (N + 1) base col most bg bl bo cl' co Fl' ao ∧ Step col W col w9 := by
  have hz8 := hg.size
  have keep8 : ∀ c, c < W.heap.size → col c ≠ .row k → w8.heap[c]? = W.heap[c]? := fun c hb hc => hg.block c hb (fun e => hc (by injection e with e; rw [e]; exact hcol))
  have hbl := (h.bas bl (by rw [h.cl']; decide)).2
  obtain ⟨w9, hrun, hF, hg9⟩ := (h.lits.same (keep8 bl hbl (by rw [h.cl']; exact fun e => by cases e))).put (t := 106) lawS Tryz.underlying106 (by have := h.cln; unfold maxLen; omega) (keyStr hkl) (.slice (some ⟨b, 0, none⟩) (zs.filter (· != g.id)).length cap)
  have hz9 := hg9.size
  have keep9 : ∀ c, c < W.heap.size → col c ≠ .row k → c ≠ bl → w9.heap[c]? = W.heap[c]? := fun c hb hc hne => (hg9.block c (by omega) (fun e => hne (by injection e))).trans (keep8 c hb hc)
  have hbbl : b ≠ bl := fun e => by rw [e, h.cl'] at hcol; cases hcol
  refine ⟨w9, hrun, if (litF Fl (.string k)).isSome = true then cl else cl + 1, fun t => if t = k then some (.slice (some ⟨b, 0, none⟩) (zs.filter (· != g.id)).length cap) else Fl t, h.litsTo k (by omega) keep9 (fun _ _ => rfl) (fun c hc => by have := h.bas c hc; omega) (Nat.le_succ _) ?_ (hF _ fun y _ => litF_put y) (fun t e => if_neg e) (fun t e => ?_) (fun t e g' hg' hk' => (delG_mem.1 hg').1) (fun v hv => ?_) (fun e => ?_), ?_⟩
  · have := h.cln
    split <;> omega
  · rw [under_other hs hm hk e]
  · have hv2 : Value.slice (some ⟨b, 0, none⟩) (zs.filter (· != g.id)).length cap = v := by
      rw [if_pos rfl] at hv
      exact Option.some.inj hv
    refine ⟨zs.filter (· != g.id), b, cap, hv2.symm, ?_, ?_, hne, hcol⟩
    · rw [← hv2]
      exact row_kept hown (fun c e => hg9.block c (hown.lt c e).2 (fun e2 => hbbl (by
        have e3 : b = c := by injection e
        rw [e3]
        injection e2)))
    · rw [under_del]; exact hperm.filter _
  · rw [if_pos rfl] at e
    cases e
  · refine ⟨⟨by rw [hg9.os, hg.os], by rw [hg9.tape, hg.tape], by rw [hg9.output, hg.output], by omega, fun c hb => absurd hb (Nat.not_lt_zero _)⟩, fun _ _ => rfl, fun c hb hf => keep9 c hb (by rw [hf]; exact fun e => by cases e) (fun e => by rw [e, h.cl'] at hf; cases hf)⟩
/-- The list of k has become empty, and goes. -/
theorem Mid.litsGone (h : Mid W x Lg Ll Lo N base col most bg bl bo cl co Fl ao) (hs : Sorted Ll) (g : G) (hm : g ∈ Ll) {k : List UInt8} (hk : keyG g = some k) (hkl : k.length ≤ maxLen) {b : Nat} {zs : List Int} (hperm : zs.Perm (under Ll k)) (hcol : col b = .row k)
    {w8 : World} (hg : W.grownBy w8 (some b)) (hne : zs.filter (· != g.id) = []) (ty : TypeId) :
    ∃ w9, (Builtin.delete_ #[106, 9] ty #[.map (some bl), .string (str k)]).run Tryz.prog w8 = .ok (.tuple #[]) w9 ∧ ∃ cl' Fl', Mid w9 x Lg (delG g.id Ll) Lo (N + 1) base col most bg bl bo cl' co Fl' ao ∧ Step col W col w9 := by
  have hz8 := hg.size
  have keep8 : ∀ c, c < W.heap.size → col c ≠ .row k → w8.heap[c]? = W.heap[c]? := fun c hb hc => hg.block c hb (fun e => hc (by injection e with e; rw [e]; exact hcol))
  have hbl := (h.bas bl (by rw [h.cl']; decide)).2
  obtain ⟨w9, hrun, hF, hg9⟩ := (h.lits.same (keep8 bl hbl (by rw [h.cl']; exact fun e => by cases e))).del (t := 106) lawS Tryz.underlying106 (keyStr hkl) ty
  have hz9 := hg9.size
  have keep9 : ∀ c, c < W.heap.size → col c ≠ .row k → c ≠ bl → w9.heap[c]? = W.heap[c]? := fun c hb hc hne => (hg9.block c (by omega) (fun e => hne (by injection e))).trans (keep8 c hb hc)
  refine ⟨w9, hrun, if (litF Fl (.string k)).isSome = true then cl - 1 else cl, fun t => if t = k then none else Fl t, h.litsTo k (by omega) keep9 (fun _ _ => rfl) (fun c hc => by have := h.bas c hc; omega) (Nat.le_succ _) ?_ (hF _ fun y _ => litF_put y) (fun t e => if_neg e) (fun t e => ?_) (fun t e g' hg' hk' => (delG_mem.1 hg').1) (fun v hv => ?_) (fun e g' hg' hk' => ?_), ?_⟩
  · have := h.cln
    split <;> omega
  · rw [under_other hs hm hk e]
  · rw [if_pos rfl] at hv
    cases hv
  · have h1 : (under (delG g.id Ll) k).Perm [] := by
      rw [under_del, ← hne]
      exact (hperm.filter _).symm
    have h2 : g'.id ∈ under (delG g.id Ll) k := by
      unfold under
      exact List.mem_map.2 ⟨g', List.mem_filter.2 ⟨hg', by simpa using hk'⟩, rfl⟩
    rw [h1.eq_nil] at h2
    cases h2
  · refine ⟨⟨by rw [hg9.os, hg.os], by rw [hg9.tape, hg.tape], by rw [hg9.output, hg.output], by omega, fun c hb => absurd hb (Nat.not_lt_zero _)⟩, fun _ _ => rfl, fun c hb hf => keep9 c hb (by rw [hf]; exact fun e => by cases e) (fun e => by rw [e, h.cl'] at hf; cases hf)⟩
end
end Go.Proofs.YtnpgmekgmelamaaGreat
