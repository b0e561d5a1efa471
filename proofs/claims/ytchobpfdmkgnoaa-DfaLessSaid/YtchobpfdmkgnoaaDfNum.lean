/-
  What is proved: what (*builder).number does.
-/
import Derived.Test.YtchobpfdmkgnoaaDfObj
namespace Go.Proofs.Ytchobpfdmkgnoaa
open Go.RowKit Go.Shelf Go.Maps

theorem key_of (l : List Int) (h : l.length ≤ 1000) : keyOf Try.prog 9 (.string (str (keyL l))) = some (keyK l) := by
  rw [WideMaps.keyOf_string_mk Try.underlying9 (by rw [str_size]; unfold maxLen keyL; rw [List.length_map]; omega), str_data]; rfl
theorem look_hit {ops : Array Oper} {rest : List Oper} {o : Oper} {a : Act} {Q : Exit → Act → World → Prop} {w : World} (hg : o.guard = none) (mo x : Operand) (hop : o.op = Op.lookup 60 mo x true) {m n : Nat} {M : DataW Unit} {ss : List (List Int)} {l : List Int}
    (hm : a.eval mo = .map (some m)) (hown : w.ownsMap Try.prog 9 (plainElem Try.prog 3) m n M) (hK : Knows M ss) (hs : Small l) (hlen : l.length ≤ 1000) (hl : l ∈ ss) (hx : a.eval x = .string (str (keyL l)))
    (h : wpList Try.prog ops Q rest (a.put o.dst (.tuple #[.int .i64 (ss.idxOf l : Int), .bool true])) w) : wpList Try.prog ops Q (o :: rest) a w := by
  refine wpList_lookup_own_ok_int w hg mo x _ hop 9 3 .i64 string_law Try.underlying60 Try.underlying3 (zero_int w) m n M hm hown _ (keyK l) hx (key_of l hlen) ?_
  intro c hat _
  rw [hK.at' l hs hl] at hat
  have hc : (ss.idxOf l : Int) = c := by injection hat with hat; injection hat
  rw [hK.has l hs, decide_eq_true hl, ← hc]
  exact h
theorem look_miss {ops : Array Oper} {rest : List Oper} {o : Oper} {a : Act} {Q : Exit → Act → World → Prop} {w : World} (hg : o.guard = none) (mo x : Operand) (hop : o.op = Op.lookup 60 mo x true) {m n : Nat} {M : DataW Unit} {ss : List (List Int)} {l : List Int}
    (hm : a.eval mo = .map (some m)) (hown : w.ownsMap Try.prog 9 (plainElem Try.prog 3) m n M) (hK : Knows M ss) (hs : Small l) (hlen : l.length ≤ 1000) (hl : l ∉ ss) (hx : a.eval x = .string (str (keyL l)))
    (h : ∀ c : Int, wpList Try.prog ops Q rest (a.put o.dst (.tuple #[.int .i64 c, .bool false])) w) : wpList Try.prog ops Q (o :: rest) a w := by
  refine wpList_lookup_own_ok_int w hg mo x _ hop 9 3 .i64 string_law Try.underlying60 Try.underlying3 (zero_int w) m n M hm hown _ (keyK l) hx (key_of l hlen) ?_
  intro c _ _
  rw [hK.has l hs, decide_eq_false hl]
  exact h c

theorem info_li : (Try.prog.info? 24).map (fun i => (i.zero, i.size, i.bytes)) = some (some (.slice none 0 0), 1, 24) := by kernel_rfl

section
variable {W : World} {base b nb : Nat} {P SA : List UInt8} {cl : Nat → Nat} {m : Nat} {ss : List (List Int)} {sv : Value} {vals : List Value}

set_option maxHeartbeats 2000000 in
theorem number_hit (hI : BI W base b nb P SA cl m ss sv vals) {lv : Value} {l : List Int} (hl : Ints W lv l) (hs : Small l) (hlen : l.length ≤ 1000) (hm : l ∈ ss) :
    Calls Try.prog 24 #[.pointer (some ⟨b, 0, none⟩), lv] W fun e w' => e = .returned (.int .i64 (ss.idxOf l : Int)) ∧ Below W.heap.size W w' := by
  have C := Lib.hid (key_any hl hlen hs)
  obtain ⟨M, hM, hK⟩ := hI.map
  have H1 : Hid (∀ w1, Below W.heap.size W w1 → w1.cell? ⟨b, 259, none⟩ = some (.map (some m)) ∧ w1.ownsMap Try.prog 9 (plainElem Try.prog 3) m ss.length M) := Lib.hid (fun w1 hb => ⟨(hI.later hb).obj.c4, map_kept hM (hb.block m hM.lt)⟩)
  have HK := Lib.hid hK
  have HM := Lib.hid hm
  have HS := Lib.hid hs
  obtain ⟨i, hi⟩ : ∃ i : Int, (ss.idxOf l : Int) = i := ⟨_, rfl⟩
  have HI := Lib.hid hi
  rw [hi]
  clear hi hM hK hm hs hI hl
  go_enter Try.func24, Try.ntmps24
  go_wp2_with fail
  refine C.out.mono ?_
  rintro e w1 ⟨rfl, hb1⟩
  obtain ⟨c4, hM1⟩ := H1.out w1 hb1
  go_wp2_with (at_lookup; refine look_hit rfl _ _ rfl rfl hM1 HK.out HS.out hlen HM.out rfl ?_; rw [HI.out])
  go_ret
  exact ⟨rfl, hb1⟩

/-- What stands in memory once the map knows l. -/
theorem bi_mid {w1 w2 : World} (hI : BI w1 base b nb P SA cl m ss sv vals) (hg : w1.grownBy w2 (some m)) (lv : Value) (hbase : base ≤ w1.heap.size) :
    BldAt w2 b nb P SA cl m sv ∧ (w2.alloc (.cells #[lv] 24)).ownsRow base 24 1 sv ss.length vals ∧ base ≤ (w2.alloc (.cells #[lv] 24)).heap.size := by
  refine ⟨hI.obj.same (hg.block b hI.obj.lt (fun e => hI.bm (by cases e; rfl))), World.ownsRow.alloc (row_kept hI.own (fun k hk => hg.block k (hI.own.lt k hk).2 (fun e => hI.sm (by rw [hk, e])))) _, ?_⟩
  have := hg.size
  simp; omega
theorem bi_last {w2 w3 : World} {lv v' : Value} (hO : BldAt w2 b nb P SA cl m sv) (hsb : sv.ownBlock ≠ some b) (hg : (w2.alloc (.cells #[lv] 24)).grownBy w3 sv.ownBlock) : BldAt w3 b nb P SA cl m sv ∧ BldAt (w3.setCell ⟨b, 260, none⟩ v') b nb P SA cl m v' := by
  have h1 : BldAt w3 b nb P SA cl m sv := hO.same ((hg.block b (by have := hO.lt; simp; omega) (fun e => hsb e.symm)).trans (Below.heap_alloc _ _ _ hO.lt))
  exact ⟨h1, h1.put v'⟩

theorem bi_more {w1 w2 w3 : World} {M : DataW Unit} {lv v' : Value} {l : List Int} (hI : BI w1 base b nb P SA cl m ss sv vals) (hK : Knows M ss) (hs : Small l) (hm : l ∉ ss) (hl : Ints w1 lv l) (hone : lv.oneCell' = true)
    (h1 : lv.ownBlock ≠ some b) (h2 : lv.ownBlock ≠ some m) (h3 : ∀ k, lv.ownBlock = some k → sv.ownBlock ≠ some k ∧ k < w1.heap.size) (hml : m < w1.heap.size)
    (hM2 : w2.ownsMap Try.prog 9 (plainElem Try.prog 3) m (ss.length + 1) (M.put (keyK l) (.lit (.int .i64 (ss.length : Int))))) (hg2 : w1.grownBy w2 (some m))
    (hown : w3.ownsRow base 24 1 v' (ss.length + 1) (vals ++ [lv])) (hg3 : (w2.alloc (.cells #[lv] 24)).grownBy w3 sv.ownBlock) (hat : v'.ownBlock = sv.ownBlock ∨ v'.ownBlock = some (w2.alloc (.cells #[lv] 24)).heap.size) :
    BI (w3.setCell ⟨b, 260, none⟩ v') base b nb P SA cl m (ss ++ [l]) v' (vals ++ [lv]) ∧ Off b m sv w1 (w3.setCell ⟨b, 260, none⟩ v') ∧ NewS sv v' w1 := by
  have hbl := hI.obj.lt
  have hz2 := hg2.size
  have hz3 := hg3.size
  have hza : (w2.alloc (.cells #[lv] 24)).heap.size = w2.heap.size + 1 := by simp
  have hzs : (w3.setCell ⟨b, 260, none⟩ v').heap.size = w3.heap.size := by simp [World.setCell]
  -- an old block that is neither the builder's, nor the map's, nor the list's stands
  have keep : ∀ k, k < w1.heap.size → k ≠ b → k ≠ m → sv.ownBlock ≠ some k → (w3.setCell ⟨b, 260, none⟩ v').heap[k]? = w1.heap[k]? := fun k hk e1 e2 e3 => by
    rw [Below.heap_setCell _ _ _ _ e1, hg3.block k (by omega) (fun e => e3 e.symm), Below.heap_alloc _ _ _ (by omega), hg2.block k hk (fun e => e2 (by cases e; rfl))]
  have hN : NewS sv v' w1 := fun k hk => by
    rcases hat with e | e
    · exact .inl (by rw [← e, hk])
    · right
      rw [hk] at e
      have : k = (w2.alloc (.cells #[lv] 24)).heap.size := by injection e
      omega
  have hO := (bi_mid hI hg2 lv (by have := hI.hb; omega)).1
  have hsm3 : w3.heap[m]? = w2.heap[m]? := (hg3.block m (by omega) (fun e => hI.sm e.symm)).trans (Below.heap_alloc _ _ _ (by omega))
  have hvb : v'.ownBlock ≠ some b := fun e => by rcases hN b e with e | e; exact hI.sb e; omega
  have hvm : v'.ownBlock ≠ some m := fun e => by rcases hN m e with e | e; exact hI.sm e; omega
  refine ⟨⟨(bi_last hO hI.sb hg3).2, row_kept (by simpa using hown) (fun k hk => Below.heap_setCell _ _ _ _ (fun e => hvb (by rw [hk, e]))), ⟨_, map_kept (by simpa using hM2) ((Below.heap_setCell _ _ _ _ (Ne.symm hI.bm)).trans hsm3), hK.more hs hm⟩, ?_, ?_, hI.bm, hvb, hvm, hI.hb, hI.hm, ?_⟩, ⟨hg3.os.trans hg2.os, hg3.tape.trans hg2.tape, hg3.output.trans hg2.output, by omega, keep⟩, hN⟩
  · intro i x hx
    have hvl : vals.length = ss.length := by have := hI.own.1; simpa using this
    have lift : ∀ (y : Value) (zs : List Int), Ints w1 y zs → y.ownBlock ≠ some b → y.ownBlock ≠ some m → (∀ k, y.ownBlock = some k → sv.ownBlock ≠ some k ∧ k < w1.heap.size) → Ints (w3.setCell ⟨b, 260, none⟩ v') y zs ∧ y.ownBlock ≠ some b ∧ y.ownBlock ≠ some m ∧ ∀ k, y.ownBlock = some k → v'.ownBlock ≠ some k ∧ k < (w3.setCell ⟨b, 260, none⟩ v').heap.size := by
      intro y zs g1 g2 g3 g4
      refine ⟨g1.kept (fun k hk hlt => keep k hlt (fun e => g2 (by rw [hk, e])) (fun e => g3 (by rw [hk, e])) (g4 k hk).1) (by omega), g2, g3, fun k hk => ⟨fun e => ?_, by have := (g4 k hk).2; omega⟩⟩
      rcases hN k e with e | e
      · exact (g4 k hk).1 e
      · have := (g4 k hk).2; omega
    by_cases hi : i < vals.length
    · rw [List.getElem?_append_left hi] at hx
      have e : (ss ++ [l]).getD i [] = ss.getD i [] := by
        rw [List.getD_eq_getElem?_getD, List.getD_eq_getElem?_getD, List.getElem?_append_left (by omega)]
      rw [e]
      obtain ⟨g1, g2, g3, g4⟩ := hI.rows i x hx
      exact lift x _ g1 g2 g3 g4
    · have hie : i = ss.length := by
        have := (List.getElem?_eq_some_iff.1 hx).1
        simp at this; omega
      subst hie
      have hxl : x = lv := by
        rw [List.getElem?_append_right (by omega), hvl, Nat.sub_self] at hx
        simpa using hx.symm
      subst hxl
      have e : (ss ++ [l]).getD ss.length [] = l := by simp [List.getD_eq_getElem?_getD]
      rw [e]
      exact lift x l hl h1 h2 h3
  · intro x hx
    rcases List.mem_append.1 hx with h | h
    · exact hI.one x h
    · have : x = lv := by simpa using h
      rw [this]; exact hone
  · intro x hx
    rcases List.mem_append.1 hx with h | h
    · exact hI.small x h
    · have : x = l := by simpa using h
      rw [this]; exact hs

set_option maxRecDepth 100000 in
set_option maxHeartbeats 4000000 in
theorem number_miss (hI : BI W base b nb P SA cl m ss sv vals) {lv : Value} {l : List Int} (hl : Ints W lv l) (hs : Small l) (hlen : l.length ≤ 1000) (hm : l ∉ ss) (hn : ss.length ≤ 100000) (hbase : base ≤ W.heap.size) (hone : lv.oneCell' = true)
    (h1 : lv.ownBlock ≠ some b) (h2 : lv.ownBlock ≠ some m) (h3 : ∀ k, lv.ownBlock = some k → sv.ownBlock ≠ some k ∧ k < W.heap.size) :
    Calls Try.prog 24 #[.pointer (some ⟨b, 0, none⟩), lv] W fun e w' => e = .returned (.int .i64 (ss.length : Int)) ∧ ∃ sv', BI w' base b nb P SA cl m (ss ++ [l]) sv' (vals ++ [lv]) ∧ Off b m sv W w' ∧ NewS sv sv' W := by
  have C := Lib.hid (key_any hl hlen hs)
  obtain ⟨M, hM, hK⟩ := hI.map
  obtain ⟨i0, hi, hz0, hz1, hz2⟩ := info_parts info_li
  obtain ⟨sa, sc, hsv⟩ := row_slice hI.own
  obtain ⟨n, hn'⟩ : ∃ n, ss.length = n := ⟨_, rfl⟩
  have hwf : (Lit.int .i64 (n : Int)).wf = true := WalkArith.wf_i64 (by omega)
  have H1 : Hid (∀ w1, Below W.heap.size W w1 → BI w1 base b nb P SA cl m ss sv vals ∧ w1.ownsMap Try.prog 9 (plainElem Try.prog 3) m n M ∧ base ≤ w1.heap.size) := Lib.hid (fun w1 hb => ⟨hI.later hb, hn' ▸ map_kept hM (hb.block m hM.lt), by have := hb.size; omega⟩)
  have H2 : Hid (∀ w1 w2 w3 v', Below W.heap.size W w1 → w2.ownsMap Try.prog 9 (plainElem Try.prog 3) m (n + 1) (M.put (keyK l) (.lit (.int .i64 (n : Int)))) → w1.grownBy w2 (some m) → w3.ownsRow base 24 1 v' (n + 1) (vals ++ [lv]) → (w2.alloc (.cells #[lv] 24)).grownBy w3 sv.ownBlock →
      (v'.ownBlock = sv.ownBlock ∨ v'.ownBlock = some (w2.alloc (.cells #[lv] 24)).heap.size) → BI (w3.setCell ⟨b, 260, none⟩ v') base b nb P SA cl m (ss ++ [l]) v' (vals ++ [lv]) ∧ Off b m sv W (w3.setCell ⟨b, 260, none⟩ v') ∧ NewS sv v' W) := Lib.hid (fun w1 w2 w3 v' hb hM2 hg2 hown hg3 hat => by
    subst hn'
    have := bi_more (hI.later hb) hK hs hm (hl.below hb) hone h1 h2 (fun k hk => ⟨(h3 k hk).1, by have := (h3 k hk).2; have := hb.size; omega⟩) (by have := hM.lt; have := hb.size; omega) hM2 hg2 hown hg3 hat
    exact ⟨this.1, (Off.of_below hb).trans (NewS.refl _ _) this.2.1, (NewS.refl sv W).trans hb.size this.2.2⟩)
  have H3 : Hid (∀ w1 w2, Below W.heap.size W w1 → w1.grownBy w2 (some m) → w2.cell? ⟨b, 260, none⟩ = some sv ∧ (w2.alloc (.cells #[lv] 24)).ownsRow base 24 1 sv n vals ∧ base ≤ (w2.alloc (.cells #[lv] 24)).heap.size) := Lib.hid (fun w1 w2 hb hg => by
    have := bi_mid (hI.later hb) hg lv (by have := hb.size; omega)
    rw [hn'] at this
    exact ⟨this.1.c5, this.2⟩)
  have H4 : Hid (∀ w1 w2 w3, Below W.heap.size W w1 → w1.grownBy w2 (some m) → (w2.alloc (.cells #[lv] 24)).grownBy w3 sv.ownBlock → w3.cell? ⟨b, 260, none⟩ = some sv ∧ w3.frozen? ⟨b, 260, none⟩ = false) := Lib.hid (fun w1 w2 w3 hb hg hg3 => by
    have hI1 := hI.later hb
    have hO := (bi_mid hI1 hg lv (by have := hb.size; omega)).1
    have := (bi_last (v' := sv) hO hI1.sb hg3).1
    exact ⟨this.c5, this.fz 260⟩)
  have HK := Lib.hid hK
  have HM := Lib.hid hm
  have HS := Lib.hid hs
  rw [hn'] at hn hsv
  rw [hn']
  obtain ⟨la, lc, hlv, _⟩ := hl.reads
  obtain ⟨ln, hln⟩ : ∃ ln, l.length = ln := ⟨_, rfl⟩
  rw [hln] at hlv
  have HLN := Lib.hid hlen
  clear hM hK hm hs hI hl h3 h1 h2 hn' hbase hlen hln
  subst hsv
  subst hlv
  go_enter Try.func24, Try.ntmps24
  go_wp2_with fail
  refine C.out.mono ?_
  rintro e w1 ⟨rfl, hb1⟩
  obtain ⟨hI1, hM1, hbase1⟩ := H1.out w1 hb1
  have c4 := hI1.obj.c4
  have c5 := hI1.obj.c5
  clear hI1
  go_wp2_with (first
    | (at_lookup; refine look_miss rfl _ _ rfl rfl hM1 HK.out HS.out HLN.out HM.out rfl ?_; intro c)
    | (at_mapUpdate; refine wpList_mapUpdate_own _ rfl _ _ _ 60 rfl 9 3 string_law Try.underlying60 _ m n M rfl hM1 (by unfold maxLen; omega) _ _ _ rfl rfl (key_of l HLN.out) _ [] (plainElem_int Try.underlying3 hwf) ?_; intro w2 hM2 hg2; obtain ⟨c52, hr2, hz2'⟩ := H3.out w1 w2 hb1 hg2)
    | (at_builtin; (refine wpList_append_own_at _ rfl _ _ 25 rfl base 24 i0 (.slice none 0 0) 1 24 Try.underlying25 hi hz0 hz1 hz2 rfl (by decide) _ n vals rfl hr2 ⟨w2.heap.size, 0, none⟩ 1 1 [.slice la ln lc] rfl rfl (cell_one_new _ _ _) (by intro u hu; simp at hu; rw [hu]; rfl) (by unfold maxLen; omega) (by omega) hz2' ?_; intro v' w3 hown3 hg3 _ hat; obtain ⟨c53, f53⟩ := H4.out w1 w2 w3 hb1 hg2 hg3; obtain ⟨va, vc, rfl⟩ := row_slice hown3)))
  have hfin := Lib.hid (H2.out w1 w2 w3 _ hb1 hM2 hg2 hown3 hg3 hat)
  clear H1 H2 H3 H4 HK HM HS hM1 hM2 hg2 hg3 hown3 hr2 hb1 C
  go_ret
  exact ⟨rfl, _, hfin.out⟩

theorem number_any (hI : BI W base b nb P SA cl m ss sv vals) {lv : Value} {l : List Int} (hl : Ints W lv l) (hs : Small l) (hlen : l.length ≤ 1000) (hn : ss.length ≤ 100000) (hbase : base ≤ W.heap.size) (hone : lv.oneCell' = true)
    (h1 : lv.ownBlock ≠ some b) (h2 : lv.ownBlock ≠ some m) (h3 : ∀ k, lv.ownBlock = some k → sv.ownBlock ≠ some k ∧ k < W.heap.size) :
    Calls Try.prog 24 #[.pointer (some ⟨b, 0, none⟩), lv] W fun e w' => e = .returned (.int .i64 ((addL ss l).idxOf l : Int)) ∧ ∃ sv' vals', BI w' base b nb P SA cl m (addL ss l) sv' vals' ∧ Off b m sv W w' ∧ NewS sv sv' W ∧ ∀ x, x ∈ vals' → x ∈ vals ∨ x = lv := by
  by_cases hm : l ∈ ss
  · refine (number_hit hI hl hs hlen hm).mono ?_
    rintro e w' ⟨rfl, hb⟩
    have e : addL ss l = ss := by unfold addL; rw [if_pos hm]
    rw [e]
    exact ⟨rfl, sv, vals, hI.later hb, Off.of_below hb, NewS.refl _ _, fun x hx => .inl hx⟩
  · refine (number_miss hI hl hs hlen hm hn hbase hone h1 h2 h3).mono ?_
    rintro e w' ⟨rfl, sv', hI', ho, hN⟩
    have e : addL ss l = ss ++ [l] := by unfold addL; rw [if_neg hm]
    rw [e, idx_new hm]
    exact ⟨rfl, sv', _, hI', ho, hN, fun x hx => by simpa using hx⟩
end
end Go.Proofs.Ytchobpfdmkgnoaa
