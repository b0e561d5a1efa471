/-
  What is proved: what dfa.build returns: the table of an automaton, if it has at most most sets; taken that slices.Sort sorts. What lay in memory before stands as it stood.
-/
import Derived.Test.YtnpgmekgmelamaaGreatDfTab
import Derived.Deep.MidRow
import Derived.Deep.AppendLies
import Derived.Deep.RegionLaw
namespace Go.Proofs.YtnpgmekgmelamaaGreat
open Go.RowKit Go.Shelf Go.Maps

/-- Rows of numbers in memory. -/
def RowsAt (W : World) (nv : Value) (rows : List (List Int)) : Prop := ∃ base rvals, W.ownsRow base 22 1 nv rows.length rvals ∧ ∀ j x, rvals[j]? = some x → Ints W x (rows.getD j [])
def BoolsAt (W : World) (av : Value) (accs : List Bool) : Prop := ∃ base, W.ownsRow base 4 1 av accs.length (accs.map Value.bool)
theorem RowsAt.below {W W' : World} {nv : Value} {rows : List (List Int)} (h : RowsAt W nv rows) (hb : Below W.heap.size W W') : RowsAt W' nv rows := by
  obtain ⟨base, rvals, h1, h2⟩ := h
  exact ⟨base, rvals, row_kept h1 (fun k e => hb.block k (h1.lt k e).2), fun j x hx => (h2 j x hx).below hb⟩
theorem BoolsAt.below {W W' : World} {av : Value} {accs : List Bool} (h : BoolsAt W av accs) (hb : Below W.heap.size W W') : BoolsAt W' av accs := by
  obtain ⟨base, h1⟩ := h
  exact ⟨base, row_kept h1 (fun k e => hb.block k (h1.lt k e).2)⟩
/-- A table in memory. -/
structure Made (W : World) (tb : Nat) (cl : Nat → Nat) (rows : List (List Int)) (accs : List Bool) (nv av : Value) : Prop where
  tab : TabAt W tb cl nv av
  rows : RowsAt W nv rows
  accs : BoolsAt W av accs
theorem Made.below {W W' : World} {tb : Nat} {cl : Nat → Nat} {rows : List (List Int)} {accs : List Bool} {nv av : Value} (h : Made W tb cl rows accs nv av) (hb : Below W.heap.size W W') : Made W' tb cl rows accs nv av :=
  ⟨h.tab.same (hb.block tb h.tab.lt), h.rows.below hb, h.accs.below hb⟩

/-- A table in memory, all of it from a block on. -/
structure MadeB (lo : Nat) (W : World) (tb : Nat) (cl : Nat → Nat) (rows : List (List Int)) (accs : List Bool) (nv av : Value) : Prop where
  tab : TabAt W tb cl nv av
  rows : ∃ rvals, W.ownsRow lo 22 1 nv rows.length rvals ∧ ∀ j x, rvals[j]? = some x → Ints W x (rows.getD j []) ∧ ∀ k, x.ownBlock = some k → lo ≤ k
  accs : W.ownsRow lo 4 1 av accs.length (accs.map Value.bool)
  tbb : lo ≤ tb
theorem MadeB.made {lo : Nat} {W W' : World} {tb : Nat} {cl : Nat → Nat} {rows : List (List Int)} {accs : List Bool} {nv av : Value} (h : MadeB lo W tb cl rows accs nv av) (hz : W.heap.size ≤ W'.heap.size) (hk : ∀ k, lo ≤ k → k < W.heap.size → W'.heap[k]? = W.heap[k]?) : Made W' tb cl rows accs nv av := by
  obtain ⟨rvals, h1, h2⟩ := h.rows
  refine ⟨h.tab.same (hk tb h.tbb h.tab.lt), ⟨lo, rvals, row_kept h1 (fun k e => hk k (h1.lt k e).1 (h1.lt k e).2), fun j x hx => ?_⟩, ⟨lo, row_kept h.accs (fun k e => hk k (h.accs.lt k e).1 (h.accs.lt k e).2)⟩⟩
  obtain ⟨h3, h4⟩ := h2 j x hx
  exact h3.kept (fun k e hlt => hk k (h4 k e) hlt) hz

theorem row_base {W : World} {base base' n s : Nat} {e : TypeId} {v : Value} {xs : List Value} (h : W.ownsRow base e s v n xs) (hb : base' ≤ base) : W.ownsRow base' e s v n xs :=
  ⟨h.1, h.2.imp id (fun ⟨g, cap, cur, h1, h2, h3⟩ => ⟨g, cap, cur, h1, Nat.le_trans hb h2, h3⟩)⟩
theorem MadeB.away {lo lo' D : Nat} {W W' : World} {tb : Nat} {cl : Nat → Nat} {rows : List (List Int)} {accs : List Bool} {nv av : Value} (h : MadeB lo W tb cl rows accs nv av) (hD : D < lo) (hl : lo' ≤ lo) (hz : W'.heap.size = W.heap.size) (hk : ∀ k, k ≠ D → W'.heap[k]? = W.heap[k]?) : MadeB lo' W' tb cl rows accs nv av := by
  obtain ⟨rvals, h1, h2⟩ := h.rows
  have hb := h.tbb
  refine ⟨h.tab.same (hk tb (by omega)), ⟨rvals, row_base (row_kept h1 (fun k e => hk k (by have := (h1.lt k e).1; omega))) hl, fun j x hx => ?_⟩, row_base (row_kept h.accs (fun k e => hk k (by have := (h.accs.lt k e).1; omega))) hl, by omega⟩
  obtain ⟨h3, h4⟩ := h2 j x hx
  exact ⟨h3.kept (fun k e hlt => hk k (by have := h4 k e; omega)) (by omega), fun k e => by have := h4 k e; omega⟩

/-- What build returns. -/
def BuildPost (w : World) (B SA : List UInt8) (cl : Nat → Nat) (most : Nat) (e : Ending) (w' : World) : Prop :=
  ((∃ n tb nv av, Closed B SA n ∧ n ≤ most ∧ e = .returned (.tuple #[.pointer (some ⟨tb, 0, none⟩), .bool true]) ∧ w.heap.size ≤ tb ∧ Made w' tb cl (tabRows B SA n) (tabAccs B SA n) nv av ∧ MadeB w.heap.size w' tb cl (tabRows B SA n) (tabAccs B SA n) nv av) ∨ ((∀ n, n ≤ most → ¬ Closed B SA n) ∧ e = .returned (.tuple #[.pointer none, .bool false]))) ∧ Below w.heap.size w w'

theorem info_arr : (Tryz.prog.info? 79).map (·.size) = some 256 := by kernel_rfl
theorem BldAt.range {W : World} {b nb : Nat} {P SA : List UInt8} {cl : Nat → Nat} {m : Nat} {sv : Value} (h : BldAt W b nb P SA cl m sv) : W.rangeAt b 3 (clsCells cl) := fun j v hj => by
  have hl : j < 256 := by
    have := (List.getElem?_eq_some_iff.1 hj).1
    simpa [clsCells] using this
  rw [clsCells_at cl hl] at hj
  rw [h.cls hl, hj]
theorem map_none {W : World} {m : Nat} (h : W.heap[m]? = some (.map #[] 0)) : W.ownsMap (H := Unit) Tryz.prog 9 (plainElem Tryz.prog 3) m 0 (.map []) :=
  ⟨#[], 0, h, ⟨by simp, Go.MapKept.stamped_empty 0, by simp⟩, Nat.le_refl _, rfl⟩
theorem bi_none {W : World} {base b nb : Nat} {P SA : List UInt8} {cl : Nat → Nat} {m : Nat} (h : BldAt W b nb P SA cl m (.slice none 0 0)) (hm : W.heap[m]? = some (.map #[] 0)) (hbm : b ≠ m) (hb : base ≤ b) (hmb : base ≤ m) : BI W base b nb P SA cl m [] (.slice none 0 0) [] :=
  ⟨h, World.ownsRow_nil _ _ _ _, ⟨_, map_none hm, Knows.none⟩, fun i x hx => (by simp at hx), fun x hx => (by simp at hx), hbm, fun e => (by cases e), fun e => (by cases e), hb, hmb, fun l hl => (by simp at hl)⟩

theorem info_bools : (Tryz.prog.info? 4).map (fun i => (i.zero, i.size, i.bytes)) = some (some (.bool false), 1, 1) := by kernel_rfl

/-- Builder and table, before the first round. -/
theorem bt_start {w1 w3 w4 : World} {base b nb m : Nat} {P SA : List UInt8} {cl : Nat → Nat} {tc : Array Value} {l0 : List Int} {sv v0 : Value} {vals : List Value} (hTC : TabC tc cl (.slice none 0 0) (.slice none 0 0)) (hbl : b < w1.heap.size) (hml : m < w1.heap.size) (hbase : base ≤ w1.heap.size)
    (hb3 : Below (w1.alloc (.cells tc 81)).heap.size (w1.alloc (.cells tc 81)) w3) (hv0 : ∀ k, v0.ownBlock = some k → (w1.alloc (.cells tc 81)).heap.size ≤ k)
    (hI : BI w4 base b nb P SA cl m [l0] sv vals) (ho : Off b m (.slice none 0 0) w3 w4) (hN : NewS (.slice none 0 0) sv w3) (hV : ∀ x, x ∈ vals → x ∈ ([] : List Value) ∨ x = v0) :
    ∃ col, BT w4 base b nb P SA cl m [l0] sv vals w1.heap.size (.slice none 0 0) (.slice none 0 0) [] [] [] col := by
  have hz : (w1.alloc (.cells tc 81)).heap.size = w1.heap.size + 1 := by simp
  have hz3 := hb3.size
  have htab : TabAt w4 w1.heap.size cl (.slice none 0 0) (.slice none 0 0) := by
    have h1 : TabAt (w1.alloc (.cells tc 81)) w1.heap.size cl (.slice none 0 0) (.slice none 0 0) := ⟨tc, World.alloc_heap_new _ _, hTC⟩
    exact (h1.same (hb3.block _ (by omega))).same (ho.block _ (by omega) (by omega) (by omega) (fun e => by cases e))
  have hsv : ∀ k, sv.ownBlock = some k → w1.heap.size < k := fun k hk => by
    rcases hN k hk with e | e
    · cases e
    · omega
  refine ⟨fun k => if k = b ∨ k = m ∨ sv.ownBlock = some k then 1 else if k = w1.heap.size then 2 else 6, hI, htab, World.ownsRow_nil _ _ _ _, World.ownsRow_nil _ _ _ _, fun j x hx => (by simp at hx), by simp, by simp, fun k hk => by simp [hk], ?_, fun k hk => (by cases hk), fun k hk => (by cases hk), fun x hx k hk => ?_, hbase, fun k e => (by
    split at e
    · exact absurd e (by decide)
    · split at e
      · exact absurd e (by decide)
      · exact absurd e (by decide))⟩
  · rw [if_neg (by rintro (e | e | e); omega; omega; have := hsv _ e; omega), if_pos rfl]
  · obtain ⟨j, hj⟩ := List.mem_iff_getElem?.1 hx
    obtain ⟨_, g2, g3, g4⟩ := hI.rows j x hj
    have hk0 : w1.heap.size < k := by
      rcases hV x hx with e | rfl
      · simp at e
      · have := hv0 k hk; omega
    rw [if_neg (by
      rintro (e | e | e)
      · exact g2 (by rw [hk, e])
      · exact g3 (by rw [hk, e])
      · exact (g4 k hk).1 e), if_neg (by omega)]

section
variable {W : World} {base b nb : Nat} {P SA : List UInt8} {cl : Nat → Nat} {m : Nat} {sv : Value} {vals : List Value} {tb : Nat} {nv av : Value} {rows : List (List Int)} {accs : List Bool} {rvals : List Value} {col : Nat → Nat}

/-- What stays as it is in all rounds. -/
structure RoundC (base nb : Nat) (P B SA : List UInt8) (f : Bool) (cl : Nat → Nat) : Prop where
  cnt : cntL f P = B
  nb : nb < base
  fits : Fits B SA
  nodup : SA.Nodup
  smp : ∀ c, c ∈ SA → cntC f c = c
  cls : ∀ c : UInt8, cl c.toNat = clsL SA (cntC f c)
  len : P.length ≤ 255
  noSt : noSt P
  lenS : SA.length ≤ 256

theorem round_len {B SA : List UInt8} : ∀ (j : Nat) (x : List Int), x ∈ setsL B SA j → x.length ≤ B.length + 1 := by
  intro j
  induction j with
  | zero => intro x hx; have : x = startL B := by simpa [setsL] using hx
            subst this; exact intsF_len _ _
  | succ j ih =>
    intro x hx
    have hx' : x ∈ growS B SA (setsL B SA j) j := hx
    unfold growS at hx'
    split at hx'
    · exact ih x hx'
    · rename_i y hy
      have hadd : ∀ (ls ss : List (List Int)), x ∈ addsL ss ls → x ∈ ss ∨ x ∈ ls := by
        intro ls
        induction ls with
        | nil => intro ss h; exact .inl h
        | cons z ls ih2 =>
          intro ss h
          rw [addsL_cons] at h
          rcases ih2 _ h with h | h
          · unfold addL at h
            split at h
            · exact .inl h
            · rcases List.mem_append.1 h with h | h
              · exact .inl h
              · exact .inr (by simp at h; simp [h])
          · exact .inr (by simp [h])
      rcases hadd _ _ hx' with h | h
      · exact ih x h
      · unfold nextsL at h
        obtain ⟨c, _, rfl⟩ := List.mem_map.1 h
        exact intsF_len _ _

/-- row, in round i. -/
theorem round_row {B : List UInt8} {f : Bool} {i : Nat} (h : BT W base b nb P SA cl m (setsL B SA i) sv vals tb nv av rows accs rvals col) (K : RoundC base nb P B SA f cl) (hn : NfaAt W nb P f) (hbase : base ≤ W.heap.size) (hf : (setsL B SA i).length ≤ 256) {l : List Int} {lv : Value} (hl : (setsL B SA i)[i]? = some l) (hv : vals[i]? = some lv) :
    Calls Tryz.prog 84 #[.pointer (some ⟨b, 0, none⟩), lv] W fun e w6 => ∃ r sv' vals' col', e = .returned (.slice (some ⟨r, 0, none⟩) SA.length SA.length) ∧
      BT w6 base b nb P SA cl m (setsL B SA (i + 1)) sv' vals' tb nv av rows accs rvals col' ∧ (col' r = 5 ∧ r < w6.heap.size) ∧ Ints w6 (.slice (some ⟨r, 0, none⟩) SA.length SA.length) (rowL B SA (setsL B SA (i + 1)) l) ∧ Below base W w6 ∧ Off b m sv W w6 := by
  obtain ⟨g1, g2, g3, g4⟩ := h.bi.rows i lv hv
  have e1 : (setsL B SA i).getD i [] = l := by rw [List.getD_eq_getElem?_getD, hl]; rfl
  rw [e1] at g1
  have hlm : l ∈ setsL B SA i := List.mem_iff_getElem?.2 ⟨i, hl⟩
  have hll : l.length ≤ 256 := by
    have := round_len (B := B) (SA := SA) i l hlm
    have hb : B.length = P.length := by rw [← K.cnt]; exact cntL_len f P
    have := K.len
    omega
  have C : RwC W base b nb P SA f cl m (setsL B SA i) sv vals lv l := ⟨h.bi, hn, K.nb, hbase, by rw [K.cnt]; exact K.fits, K.nodup, K.smp, K.cls, K.len, K.noSt, K.lenS, g1, h.bi.small l hlm, hll, g2, g3, g4, by omega⟩
  refine (row_any C).mono ?_
  rintro e w6 ⟨rfl, sv', vals', g, R⟩
  obtain ⟨col', h1, h2, h3⟩ := h.row R
  rw [K.cnt, ← sets_at hl] at h1 h3
  exact ⟨W.heap.size, sv', vals', col', rfl, h1, ⟨h2, World.rowIs.lt R.nums⟩, h3, C.belowB R.off, R.off⟩

/-- The row appended. -/
theorem round_next {ss : List (List Int)} (h : BT W base b nb P SA cl m ss sv vals tb nv av rows accs rvals col) {r n : Nat} {zs : List Int} (hr : col r = 5 ∧ r < W.heap.size) (hi : Ints W (.slice (some ⟨r, 0, none⟩) n n) zs) {w8 : World} {g cap : Nat}
    (hown : w8.ownsRow base 22 1 (.slice (some ⟨g, 0, none⟩) (rows.length + 1) cap) (rows.length + 1) (rvals ++ [.slice (some ⟨r, 0, none⟩) n n])) (hg : (W.alloc (.cells #[.slice (some ⟨r, 0, none⟩) n n] 22)).grownBy w8 nv.ownBlock) (hat : nv.ownBlock = some g ∨ g = W.heap.size + 1) :
    w8.cell? ⟨tb, 256, none⟩ = some nv ∧ w8.frozen? ⟨tb, 256, none⟩ = false ∧ ∃ col', BT (w8.setCell ⟨tb, 256, none⟩ (.slice (some ⟨g, 0, none⟩) (rows.length + 1) cap)) base b nb P SA cl m ss sv vals tb (.slice (some ⟨g, 0, none⟩) (rows.length + 1) cap) av (rows ++ [zs]) accs (rvals ++ [.slice (some ⟨r, 0, none⟩) n n]) col' := by
  have htl := h.tab.lt
  have ht : TabAt w8 tb cl nv av := h.tab.same ((hg.block tb (by simp; omega) (fun e => by have := h.cn tb e.symm; rw [h.ct] at this; exact absurd this (by decide))).trans (Below.heap_alloc _ _ _ htl))
  refine ⟨ht.c1, ht.fz 256, h.next hi (fun k hk => ?_) ((Below.refl _ _).alloc (Nat.le_refl _) _) hown hg (fun k hk => ?_)⟩
  · have : r = k := by injection hk
    rw [← this]; exact hr
  · have : g = k := by injection hk
    subst this
    rcases hat with e | e
    · exact .inl e
    · exact .inr (by omega)
/-- What accepts appended. -/
theorem round_acc {ss : List (List Int)} (h : BT W base b nb P SA cl m ss sv vals tb nv av rows accs rvals col) {q : Bool} {w8 : World} {g cap : Nat}
    (hown : w8.ownsRow base 4 1 (.slice (some ⟨g, 0, none⟩) (accs.length + 1) cap) (accs.length + 1) (accs.map Value.bool ++ [.bool q])) (hg : ((W.alloc (.cells #[.bool q] 4)).drew).grownBy w8 av.ownBlock) (hat : av.ownBlock = some g ∨ g = W.heap.size + 1) :
    w8.cell? ⟨tb, 257, none⟩ = some av ∧ w8.frozen? ⟨tb, 257, none⟩ = false ∧ ∃ col', BT (w8.setCell ⟨tb, 257, none⟩ (.slice (some ⟨g, 0, none⟩) (accs.length + 1) cap)) base b nb P SA cl m ss sv vals tb nv (.slice (some ⟨g, 0, none⟩) (accs.length + 1) cap) rows (accs ++ [q]) rvals col' := by
  have htl := h.tab.lt
  have ht : TabAt w8 tb cl nv av := h.tab.same ((hg.block tb (by simp; omega) (fun e => by have := h.ca tb e.symm; rw [h.ct] at this; exact absurd this (by decide))).trans (Below.heap_alloc _ _ _ htl))
  refine ⟨ht.c2, ht.fz 257, h.acc ((Below.refl _ _).alloc (Nat.le_refl _) _).drew hown hg (fun k hk => ?_)⟩
  have : g = k := by injection hk
  subst this
  rcases hat with e | e
  · exact .inl e
  · exact .inr (by omega)
end

set_option maxRecDepth 100000 in
set_option maxHeartbeats 4000000 in
theorem build_any {w : World} {nb : Nat} {P : List UInt8} {f : Bool} (ho : NfaAt w nb P f) (hP : P.length ≤ 255) (hns : noSt P) (HS : SortsN ((cntL f P).filter fun c => !wildC c).length) (most : Nat) (h1 : 1 ≤ most) (h2 : most ≤ 256) :
    Calls Tryz.prog 46 #[.pointer (some ⟨nb, 0, none⟩), .int .i64 (most : Int)] w (BuildPost w (cntL f P) (sampL (cntL f P)) (clsTo f (sampL (cntL f P)) 256) most) := by
  have C1 := Lib.hid (newBuilder_any ho hP HS)
  have hnbl := ho.lt
  have HF := Lib.hid (samp_fits (cntL f P))
  have HND := Lib.hid (samp_nodup (cntL f P))
  have HCN := Lib.hid (samp_cnt f P)
  have HSL : Hid ((sampL (cntL f P)).length ≤ 256) := Lib.hid (by
    have := letL_len (cntL f P)
    rw [cntL_len] at this
    unfold sampL
    rw [List.length_cons]; omega)
  have HCL : Hid (∀ c : UInt8, clsTo f (sampL (cntL f P)) 256 c.toNat = clsL (sampL (cntL f P)) (cntC f c)) := Lib.hid (fun c => by
    unfold clsTo
    rw [if_pos c.toNat_lt, UInt8.ofNat_toNat])
  have HBL : Hid ((cntL f P).length = P.length) := Lib.hid (cntL_len f P)
  obtain ⟨B, hB⟩ : ∃ B, cntL f P = B := ⟨_, rfl⟩
  obtain ⟨SA, hSA⟩ : ∃ SA, sampL B = SA := ⟨_, rfl⟩
  obtain ⟨cl, hcl⟩ : ∃ cl, clsTo f SA 256 = cl := ⟨_, rfl⟩
  rw [hB, hSA, hcl] at C1 HCL
  rw [hB, hSA] at HF HND HSL HCN
  rw [hB] at HBL
  rw [hB, hSA, hcl]
  have HHB := Lib.hid hB
  clear HS hB hSA hcl
  have CS : Hid (∀ W, NfaAt W nb P f → Calls Tryz.prog 83 #[.pointer (some ⟨nb, 0, none⟩)] W fun e w' => ∃ v, e = .returned v ∧ w'.ownsRow W.heap.size 3 1 v (startL B).length ((startL B).map (Value.int .i64)) ∧ Below W.heap.size W w') := Lib.hid (fun W h => by
    have := start_own h (by omega) hns
    rwa [HHB.out, ← HBL.out] at this)
  replace ho := Lib.hid ho
  replace hns := Lib.hid hns
  go_enter Tryz.func46, Tryz.ntmps46
  go_wp2_with fail
  refine C1.out.mono ?_
  rintro e w1 ⟨b, m, rfl, hb, hm, hbm, hO1, hM1, hb1⟩
  have hrange := hO1.range
  go_wp2_with fail
  refine wp_load_mid 79 _ rfl b 3 rfl (clsCells cl) _ hrange Tryz.underlying79 rfl (by rw [info_arr]; simp [clsCells]) ?_
  obtain ⟨cs, hcs⟩ : ∃ cs, (clsCells cl).toArray = cs := ⟨_, rfl⟩
  have hcz : cs.size = 256 := by rw [← hcs]; simp [clsCells]
  have hTC := tab_walk cl hcs
  rw [hcs]
  clear hcs hrange
  go_wp2_with fail
  obtain ⟨tc, htc⟩ : ∃ tc, Array.foldl (fun cs x => cs.setIfInBounds x.snd x.fst) Tryz.zeroCells81 cs.zipIdx 0 256 = tc := ⟨_, rfl⟩
  rw [hcz, htc] at hTC
  rw [htc]
  clear htc
  have hz1 := hb1.size
  have hb2 : Below w.heap.size w (w1.alloc (.cells tc 81)) := hb1.alloc hz1 _
  have hbl1 := hO1.lt
  have hml1 : m < w1.heap.size := (Array.getElem?_eq_some_iff.1 hM1).1
  have hba : Below w1.heap.size w1 (w1.alloc (.cells tc 81)) := (Below.refl _ _).alloc (Nat.le_refl _) _
  refine (CS.out _ (ho.out.below hb2 hnbl)).mono ?_
  rintro e w3 ⟨v0, rfl, hv0, hb3⟩
  have hz2 : (w1.alloc (.cells tc 81)).heap.size = w1.heap.size + 1 := by simp
  have hO3 := (hO1.same (hba.block b hbl1)).same (hb3.block b (by omega))
  have hM3 := (hb3.block m (by omega)).trans ((hba.block m hml1).trans hM1)
  have hI3 := bi_none hO3 hM3 hbm hb hm
  have hl0 : Small (startL B) := small_ints (by have := HBL.out; omega)
  have hn0 : (startL B).length ≤ 1000 := Nat.le_trans (intsF_len _ _) (by have := HBL.out; omega)
  have hone : v0.oneCell' = true := by obtain ⟨a, cap, rfl⟩ := row_slice hv0; rfl
  have hz3 := hb3.size
  have C4 := number_any hI3 (Ints.of_own hv0) hl0 hn0 (by simp) (by omega) hone (fun e => by have := (hv0.lt b e).1; omega) (fun e => by have := (hv0.lt m e).1; omega) (fun k hk => ⟨fun e => (by cases e), (hv0.lt k hk).2⟩)
  have e0 : addL [] (startL B) = [startL B] := by simp [addL]
  rw [e0] at C4
  go_wp2_with fail
  refine C4.mono ?_
  rintro e w4 ⟨rfl, sv, vals, hI4, ho4, hN4, hV4⟩
  obtain ⟨col, hBT⟩ := bt_start hTC hbl1 hml1 hz1 hb3 (fun k hk => (hv0.lt k hk).1) hI4 ho4 hN4 hV4
  have hb4 : Below w.heap.size w w4 := (hb2.trans (hb3.mono (by omega))).trans (ho4.below (B := w.heap.size) (by omega) hb hm (fun k hk => (by cases hk)))
  have hBT0 : Hid (BT w4 w.heap.size b nb P SA cl m (setsL B SA 0) sv vals w1.heap.size (.slice none 0 0) (.slice none 0 0) (rowsTo B SA 0) (accsTo B SA 0) [] col) := Lib.hid hBT
  replace hb4 := Lib.hid hb4
  obtain ⟨tb, htb⟩ : ∃ tb, w1.heap.size = tb := ⟨_, rfl⟩
  rw [htb] at hBT0 hz1
  rw [htb]
  clear hBT hI4 ho4 hN4 hV4 C4 hI3 hM3 hO3 hv0 hb3 hba hb2 hb1 hO1 hM1 hTC hcz C1 CS hl0 hn0 hone hz3 hz2 e0 hbl1 hml1 htb
  have KK : Hid (RoundC w.heap.size nb P B SA f cl) := Lib.hid ⟨HHB.out, hnbl, HF.out, HND.out, HCN.out, HCL.out, hP, hns.out, HSL.out⟩
  obtain ⟨n, hn⟩ : ∃ n, SA.length = n := ⟨_, rfl⟩
  have HNN := Lib.hid hn
  obtain ⟨i0, hi0, hi1, hi2, hi3⟩ := info_parts info_li
  obtain ⟨j0, hj0, hj1, hj2, hj3⟩ := info_parts info_bools
  clear hn HF HND HCN HSL HCL
  go_wp2
  go_loopg [8, 9] most (fun gk s8 s9 wr => ∃ (i : Nat) (sv : Value) (vals : List Value) (nv av : Value) (rvals : List Value) (col : Nat → Nat), i + gk = most ∧ s8 = .int .i64 i ∧ Hid (BT wr w.heap.size b nb P SA cl m (setsL B SA i) sv vals tb nv av (rowsTo B SA i) (accsTo B SA i) rvals col) ∧ Hid (i ≤ (setsL B SA i).length ∧ (setsL B SA i).length ≤ most) ∧ Hid (Below w.heap.size w wr))
  case atStart => exact ⟨0, sv, vals, _, _, [], col, by omega, rfl, hBT0, Lib.hid ⟨Nat.zero_le _, by show 1 ≤ most; omega⟩, hb4⟩
  case round =>
    clear hBT0 hb4
    obtain ⟨i, sv, vals, nv, av, rvals, col, hig, rfl, HBT, HLN, HB⟩ := hrel
    obtain ⟨g, sc, hsv, _, _⟩ := HBT.out.bi.own.form (setsL_pos B SA i)
    subst hsv
    obtain ⟨ne, hne⟩ : ∃ ne, (setsL B SA i).length = ne := ⟨_, rfl⟩
    have c5 := HBT.out.bi.obj.c5
    rw [hne] at c5
    have hln := HLN.out
    rw [hne] at hln
    obtain ⟨hin, hnm⟩ := hln
    by_cases hi : i < ne
    · have hiz : (i : Int) < (ne : Int) := by omega
      have hbz := HB.out.size
      have hBTd : BT wr.drew w.heap.size b nb P SA cl m (setsL B SA i) (.slice (some ⟨g, 0, none⟩) (setsL B SA i).length sc) vals tb nv av (rowsTo B SA i) (accsTo B SA i) rvals col := HBT.out.later (Below.refl _ _).drew
      obtain ⟨l, hl⟩ : ∃ l, (setsL B SA i)[i]? = some l := ⟨_, List.getElem?_eq_getElem (by omega)⟩
      have hvl : vals.length = ne := by have := HBT.out.bi.own.1; rw [hne] at this; simpa using this
      obtain ⟨lv, hv⟩ : ∃ lv, vals[i]? = some lv := ⟨_, List.getElem?_eq_getElem (by omega)⟩
      have cv : wr.cell? ⟨g, i, none⟩ = some lv := by
        have := HBT.out.bi.own.cells (g := g) rfl i lv hv
        have ea : (⟨g, 0, none⟩ : Addr).add i = ⟨g, i, none⟩ := by unfold Addr.add; split <;> simp_all
        rwa [ea] at this
      have hgl : l = (setsL B SA i).getD i [] := by rw [List.getD_eq_getElem?_getD, hl]; rfl
      have hli : Ints wr lv l := by rw [hgl]; exact (HBT.out.bi.rows i lv hv).1
      have hlsm := HBT.out.bi.small l (List.mem_iff_getElem?.2 ⟨i, hl⟩)
      obtain ⟨la, lc, hlv, _⟩ := hli.reads
      have hrl : (rowsTo B SA i).length = i := rowsTo_len B SA (by omega)
      have hal : (accsTo B SA i).length = i := accsTo_len B SA (by omega)
      obtain ⟨na, nc, hnv⟩ := row_slice HBT.out.nown
      obtain ⟨aa, ac, hav⟩ := row_slice HBT.out.aown
      rw [hrl] at hnv
      rw [hal] at hav
      subst hnv hav
      have hnfa : NfaAt wr.drew nb P f := ho.out.below HB.out.drew hnbl
      have hrs := rowsTo_succ hl
      have has' := accsTo_succ hl
      obtain ⟨q, hq⟩ : ∃ q, inL l B.length = q := ⟨_, rfl⟩
      rw [hq] at has'
      have HR : Hid (Calls Tryz.prog 84 #[.pointer (some ⟨b, 0, none⟩), lv] wr.drew fun e w6 => ∃ r sv' vals' col', e = .returned (.slice (some ⟨r, 0, none⟩) n n) ∧ (w6.cell? ⟨tb, 256, none⟩ = some (.slice na i nc) ∧ (w6.alloc (.cells #[.slice (some ⟨r, 0, none⟩) n n] 22)).cell? ⟨tb, 256, none⟩ = some (.slice na i nc)) ∧
          ((w6.alloc (.cells #[.slice (some ⟨r, 0, none⟩) n n] 22)).ownsRow w.heap.size 22 1 (.slice na i nc) i rvals ∧ w.heap.size ≤ (w6.alloc (.cells #[.slice (some ⟨r, 0, none⟩) n n] 22)).heap.size) ∧
          Hid (∀ gg cap w8, w8.ownsRow w.heap.size 22 1 (.slice (some ⟨gg, 0, none⟩) (i + 1) cap) (i + 1) (rvals ++ [.slice (some ⟨r, 0, none⟩) n n]) → (w6.alloc (.cells #[.slice (some ⟨r, 0, none⟩) n n] 22)).grownBy w8 (Value.slice na i nc).ownBlock → ((Value.slice na i nc).ownBlock = some gg ∨ gg = w6.heap.size + 1) →
            (w8.cell? ⟨tb, 256, none⟩ = some (.slice na i nc) ∧ w8.frozen? ⟨tb, 256, none⟩ = false) ∧ Hid (∃ col9, BT (w8.setCell ⟨tb, 256, none⟩ (.slice (some ⟨gg, 0, none⟩) (i + 1) cap)) w.heap.size b nb P SA cl m (setsL B SA (i + 1)) sv' vals' tb (.slice (some ⟨gg, 0, none⟩) (i + 1) cap) (.slice aa i ac) (rowsTo B SA (i + 1)) (accsTo B SA i) (rvals ++ [.slice (some ⟨r, 0, none⟩) n n]) col9 ∧ Below w.heap.size w (w8.setCell ⟨tb, 256, none⟩ (.slice (some ⟨gg, 0, none⟩) (i + 1) cap)) ∧ Ints (w8.setCell ⟨tb, 256, none⟩ (.slice (some ⟨gg, 0, none⟩) (i + 1) cap)) lv l))) := Lib.hid (by
        refine (round_row hBTd KK.out hnfa (by have := HB.out.size; exact this) (by omega) hl hv).mono ?_
        rintro e w6 ⟨r, sv', vals', col', rfl, h6, hr6, hi6, hb6, ho6⟩
        rw [HNN.out] at hi6
        have hz6 : w.heap.size ≤ w6.heap.size := by have := hb6.size; have h0 : wr.drew.heap.size = wr.heap.size := rfl; omega
        have hlk : Ints w6 lv l := by
          obtain ⟨_, o1, o2, o3⟩ := hBTd.bi.rows i lv hv
          refine Ints.kept (W := wr.drew) hli (fun k e hlt => ho6.block k hlt (fun e2 => o1 (by rw [e, e2])) (fun e2 => o2 (by rw [e, e2])) (o3 k e).1) ho6.size
        refine ⟨r, sv', vals', col', by rw [HNN.out], ⟨h6.tab.c1, (h6.tab.same (Below.heap_alloc _ _ _ h6.tab.lt)).c1⟩, ⟨?_, by simp; omega⟩, Lib.hid (fun gg cap w8 hown hg hat => ?_)⟩
        · have := h6.nown
          rw [hrl] at this
          exact this.alloc _
        · have hx := round_next (g := gg) (cap := cap) h6 hr6 hi6 (by rw [hrl]; exact hown) hg hat
          rw [hrl] at hx
          obtain ⟨x1, x2, col9, x3⟩ := hx
          rw [← hrs] at x3
          refine ⟨⟨x1, x2⟩, Lib.hid ⟨col9, x3, ?_, ?_⟩⟩
          · have hbW : Below w.heap.size w w6 := HB.out.drew.trans hb6
            have hb8 : Below w.heap.size w w8 := (hbW.alloc hz6 _).grown hg (by simp; omega) (fun k e => (h6.nown.lt k e).1)
            exact hb8.setCell (p := ⟨tb, 256, none⟩) h6.tbb _
          · have hlo : ∀ k, lv.ownBlock = some k → col k = 6 ∧ k < wr.heap.size := fun k e => ⟨hBTd.cv lv (List.mem_iff_getElem?.2 ⟨i, hv⟩) k e, ((hBTd.bi.rows i lv hv).2.2.2 k e).2⟩
            have hz8 := hg.size
            refine hlk.kept (fun k e hlt => ?_) (by simp [World.setCell]; simp at hz8; omega)
            obtain ⟨hc, hk⟩ := hlo k e
            have hkt : k ≠ tb := fun e2 => by rw [e2, hBTd.ct] at hc; exact absurd hc (by decide)
            have hkn : (Value.slice na i nc).ownBlock ≠ some k := fun e2 => by rw [hBTd.cn k e2] at hc; exact absurd hc (by decide)
            rw [Below.heap_setCell _ _ _ _ hkt, hg.block k (by simp; omega) (fun e2 => hkn e2.symm), Below.heap_alloc _ _ _ hlt])
      have HAQ : Hid (∀ W, NfaAt W nb P f → Ints W lv l → Calls Tryz.prog 85 #[.pointer (some ⟨nb, 0, none⟩), lv] W fun e w' => e = .returned (.bool q) ∧ w' = W) := Lib.hid (fun W h1 h2 => by
        have := accepts_any h1 h2 (by
          have : l.length ≤ 1000000 := by
            have hh := round_len (B := B) (SA := SA) i l (List.mem_iff_getElem?.2 ⟨i, hl⟩)
            have := HBL.out
            omega
          exact this)
        rwa [← HBL.out, hq] at this)
      have ctN := HBT.out.tab.c1
      have HL := Lib.hid hl
      have HQ := Lib.hid has'
      have HNE := Lib.hid hne
      have HAL := Lib.hid hal
      have hi256 : i ≤ 256 := by omega
      obtain ⟨ll, hll⟩ : ∃ ll, l.length = ll := ⟨_, rfl⟩
      rw [hll] at hlv
      subst hlv
      clear hrs has' hq hnfa hli hlsm hgl hv hvl hBTd hl hne hrl hal hll
      go_wp2_with fail
      go_region_law (first
        | (refine step_append_lies _ (by rfl) _ _ 23 (by rfl) w.heap.size 22 i0 (.slice none 0 0) 1 24 Tryz.underlying23 hi0 hi1 hi2 hi3 rfl (by decide) (.slice na i nc) i rvals (by rfl) o6 ⟨w6.heap.size, 0, none⟩ 1 1 [.slice (some ⟨r, 0, none⟩) n n] (by rfl) (by rfl) (cell_one_new _ _ _) (by intro u hu; simp at hu; rw [hu]; rfl) (by decide) (by unfold maxLen; omega) (by omega) z6 (w6.heap.size + 1) (by simp) ?_; intro gg cap w8 hown8 hg8 hat8 hlt8; obtain ⟨⟨c8, f8⟩, hx8⟩ := hx6.out gg cap w8 hown8 hg8 hat8)
        | (go_simp; go_at_call 84; refine HR.out.mono ?_; rintro e w6 ⟨r, sv6, vals6, col6, rfl, ⟨c6, c6'⟩, ⟨o6, z6⟩, hx6⟩))
      all_goals
        obtain ⟨W9, hW9⟩ : ∃ W9, w8.setCell ⟨tb, 256, none⟩ (.slice (some ⟨gg, 0, none⟩) (i + 1) cap) = W9 := ⟨_, rfl⟩
        rw [hW9] at hx8
        rw [hW9]
        obtain ⟨col9, hB9, hbw9, hli9⟩ := hx8.out
        have ct9 := hB9.tab.c2
        have ct9a := (hB9.tab.same (W' := W9.alloc (.cells #[.bool q] 4)) (Below.heap_alloc _ _ _ hB9.tab.lt)).c2
        have o9 : ((W9.alloc (.cells #[.bool q] 4)).drew).ownsRow w.heap.size 4 1 (.slice aa i ac) i ((accsTo B SA i).map Value.bool) := by
          have h9 := hB9.aown
          rw [HAL.out] at h9
          exact World.ownsRow.alloc (w := W9) h9 _
        have z9 : w.heap.size ≤ ((W9.alloc (.cells #[.bool q] 4)).drew).heap.size := by have := hbw9.size; simp; omega
        have CA9 : Hid (Calls Tryz.prog 85 #[.pointer (some ⟨nb, 0, none⟩), .slice la ll lc] W9.drew fun e w' => e = .returned (.bool q) ∧ w' = W9.drew) := Lib.hid (HAQ.out _ (ho.out.below hbw9.drew hnbl) (hli9.below (Below.refl _ _).drew))
        have hx9 : Hid (∀ g2 cap2 w10, w10.ownsRow w.heap.size 4 1 (.slice (some ⟨g2, 0, none⟩) (i + 1) cap2) (i + 1) ((accsTo B SA i).map Value.bool ++ [.bool q]) → ((W9.alloc (.cells #[.bool q] 4)).drew).grownBy w10 (Value.slice aa i ac).ownBlock → ((Value.slice aa i ac).ownBlock = some g2 ∨ g2 = W9.heap.size + 1) →
            (w10.cell? ⟨tb, 257, none⟩ = some (.slice aa i ac) ∧ w10.frozen? ⟨tb, 257, none⟩ = false) ∧ Hid (∃ col12, BT (w10.setCell ⟨tb, 257, none⟩ (.slice (some ⟨g2, 0, none⟩) (i + 1) cap2)) w.heap.size b nb P SA cl m (setsL B SA (i + 1)) sv6 vals6 tb (.slice (some ⟨gg, 0, none⟩) (i + 1) cap) (.slice (some ⟨g2, 0, none⟩) (i + 1) cap2) (rowsTo B SA (i + 1)) (accsTo B SA (i + 1)) (rvals ++ [.slice (some ⟨r, 0, none⟩) n n]) col12 ∧ Below w.heap.size w (w10.setCell ⟨tb, 257, none⟩ (.slice (some ⟨g2, 0, none⟩) (i + 1) cap2)))) := Lib.hid (fun g2 cap2 w10 hown hg hat => by
          have hx := round_acc (g := g2) (cap := cap2) hB9 (by rw [HAL.out]; exact hown) hg hat
          rw [HAL.out, ← HQ.out] at hx
          obtain ⟨x1, x2, col12, x3⟩ := hx
          refine ⟨⟨x1, x2⟩, Lib.hid ⟨col12, x3, ?_⟩⟩
          have hb8 : Below w.heap.size w w10 := ((hbw9.alloc (by have := hbw9.size; exact this) _).drew).grown hg (by simp; have := hbw9.size; omega) (fun k e => (hB9.aown.lt k e).1)
          exact hb8.setCell (p := ⟨tb, 257, none⟩) hB9.tbb _)
        clear hx8 hW9 hB9 hbw9 hli9 hx6 o6 c6 c6' hown8 hg8 hat8 c8 f8
        go_wp2_with fail
        go_region_law (first
          | (refine step_append_lies _ (by rfl) _ _ 24 (by rfl) w.heap.size 4 j0 (.bool false) 1 1 Tryz.underlying24 hj0 hj1 hj2 hj3 rfl (by decide) (.slice aa i ac) i _ (by rfl) o9 ⟨W9.heap.size, 0, none⟩ 1 1 [.bool q] (by rfl) (by rfl) (cell_one_new _ _ _) (by intro u hu; simp at hu; rw [hu]; rfl) (by decide) (by unfold maxLen; omega) (by omega) z9 (W9.heap.size + 1) (by simp) ?_; intro g2 cap2 w10 hown10 hg10 hat10 hlt10; obtain ⟨⟨c10, f10⟩, hx10⟩ := hx9.out g2 cap2 w10 hown10 hg10 hat10)
          | (go_simp; go_at_call 85; refine CA9.out.mono ?_; rintro e w' ⟨rfl, rfl⟩))
        all_goals
          obtain ⟨W12, hW12⟩ : ∃ W12, w10.setCell ⟨tb, 257, none⟩ (.slice (some ⟨g2, 0, none⟩) (i + 1) cap2) = W12 := ⟨_, rfl⟩
          rw [hW12] at hx10
          rw [hW12]
          obtain ⟨col12, hB12, hbw12⟩ := hx10.out
          obtain ⟨g12, sc12, hsv6, _, _⟩ := hB12.bi.own.form (setsL_pos B SA (i + 1))
          subst hsv6
          have c12 := hB12.bi.obj.c5
          replace hB12 := Lib.hid hB12
          replace hbw12 := Lib.hid hbw12
          have HI1 : Hid (i + 1 ≤ (setsL B SA (i + 1)).length) := Lib.hid (by
            have := setsL_len_mono B SA (show i ≤ i + 1 by omega)
            rw [HNE.out] at this
            omega)
          obtain ⟨ne', hne'⟩ : ∃ ne', (setsL B SA (i + 1)).length = ne' := ⟨_, rfl⟩
          have HNE' := Lib.hid hne'
          rw [hne'] at c12
          clear hx10 hW12 hx9 o9 hown10 hg10 hat10 c10 f10 ct9 ct9a CA9 hne'
          by_cases hover : ne' ≤ most
          · have hoz : ¬ ((most : Int) < (ne' : Int)) := by omega
            go_wp2
            go_roundg (most - (i + 1))
            case measure => omega
            case rel => exact ⟨i + 1, _, vals6, _, _, _, col12, by omega, iv (by omega), hB12, Lib.hid ⟨HI1.out, by rw [HNE'.out]; exact hover⟩, hbw12⟩
          · have hoz : (most : Int) < (ne' : Int) := by omega
            have HNC : Hid (∀ n, n ≤ most → ¬ Closed B SA n) := Lib.hid (fun n hn hc => by
              have := hc.least (i + 1)
              rw [HNE'.out] at this
              omega)
            go_wp2
            try rw [Exit.noGoto_ret]
            go_ret2
            exact ⟨.inr ⟨HNC.out, rfl⟩, hbw12.out⟩
    · have hiz : ¬ ((i : Int) < (ne : Int)) := by omega
      have hie : i = ne := by omega
      have HC : Hid (Closed B SA i) := Lib.hid (by unfold Closed; rw [hne, hie])
      have him : i ≤ most := by omega
      have HM : Hid (Made wr tb cl (tabRows B SA i) (tabAccs B SA i) nv av ∧ MadeB w.heap.size wr tb cl (tabRows B SA i) (tabAccs B SA i) nv av) := Lib.hid (by
        have h := HBT.out
        have hown := h.nown
        have haow := h.aown
        have hrw := h.rws
        rw [rowsTo_closed HC.out] at hown hrw
        rw [accsTo_closed HC.out] at haow
        exact ⟨⟨h.tab, ⟨_, rvals, hown, fun j x hx => (hrw j x hx).1⟩, ⟨_, haow⟩⟩, ⟨h.tab, ⟨rvals, hown, fun j x hx => ⟨(hrw j x hx).1, fun k e => h.five k ((hrw j x hx).2 k e).1⟩⟩, haow, h.tbb⟩⟩)
      clear hie
      go_wp2
      go_ret2
      exact ⟨.inl ⟨i, tb, nv, av, HC.out, him, rfl, hz1, HM.out⟩, HB.out⟩
end Go.Proofs.YtnpgmekgmelamaaGreat
