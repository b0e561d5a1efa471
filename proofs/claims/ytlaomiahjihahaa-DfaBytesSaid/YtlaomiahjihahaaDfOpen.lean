/-
  What is proved: how an argument that is a table is opened; what dfa.Check returns on tables that are not valid; what the laws' helper lightDfa returns. What lay in memory before stands as it stood.
-/
import Derived.Test.YtlaomiahjihahaaDfNot
import Derived.Test.YtlaomiahjihahaaDfLives
import Derived.Handy
import Derived.Carry
import Derived.ShutString
namespace Go.Proofs.Ytlaomiahjihahaa
open Go.RowKit Go.Shelf Go.Maps Go.ChangeShapes Go.WideShapes Go.ChangeAt

theorem cells_int : Try.prog.cellsOf 3 = 1 := by kernel_rfl
theorem cells_bool : Try.prog.cellsOf 4 = 1 := by kernel_rfl
theorem cells_ints : Try.prog.cellsOf 22 = 1 := by kernel_rfl
theorem cells_dfa : Try.prog.cellsOf 26 = 3 := by kernel_rfl

theorem ints_of {W : World} {a : Addr} {len cap : Nat} {zs : List Int} (hl : len ≤ zs.length) (hcell : ∀ i, i < zs.length → W.cell? (a.add i) = some (.int .i64 (zs.getD i 0))) : Ints W (.slice (some a) len cap) (zs.take len) := by
  by_cases hl0 : len = 0
  · subst hl0
    exact .inr (.inl ⟨a, cap, rfl, rfl⟩)
  · obtain ⟨b, off, spot⟩ := a
    have hspot : spot = none := by simpa [Addr.add] using World.cell?_spot (hcell 0 (by omega))
    subst hspot
    have hbW : b < W.heap.size := by simpa [Addr.add] using World.block_lt_of_cell? W _ (hcell 0 (by omega))
    have htl : (zs.take len).length = len := by rw [List.length_take]; omega
    refine .inr (.inr ⟨b, off, cap, by rw [htl], hbW, fun j hj => ?_⟩)
    rw [htl] at hj
    rw [← add_plain, hcell j (by omega)]
    simp [List.getD, hj]

set_option maxRecDepth 100000 in
theorem open_dfa {H : Type} {enc : TypeId × Value → H} {W : World} {base : Nat} {v : Value} {d : DataW H} {p : List MemPlace} (hv : Value.okWide Try.prog W .any base 26 v)
    (h : DataW.Trod enc Try.prog W 0 (fun _ => true) true 26 v d p) : ∃ cv nv av cs rows accs, v = .agg #[cv, nv, av] ∧ DfaR W cv nv av cs rows accs ∧ rows.length ≤ 9223372036854775807 := by
  obtain ⟨v0, v1, v2, y0, y1, y2, n, rfl, _, _, h0, h1, h2⟩ := Go.Joins.open_agg3 Try.underlying26 (by kernel_rfl) cells_dfa hv h
  have C0 : ∃ cs, Ints W v0 cs := by
    rcases open_ints Try.underlying22 Try.underlying3 cells_int h0 with ⟨hcs, hx⟩ | ⟨a, len', cap', zs, hcs, _, hl, hm, hz, hx, hcell, hwz⟩
    · exact ⟨[], .inl ⟨by simpa using hcs, rfl⟩⟩
    · simp only [List.cons.injEq, and_true] at hcs
      subst hcs
      simp only [if_true] at hz
      exact ⟨_, ints_of (by omega) hcell⟩
  have C1 : ∃ rows, RowsR W v1 rows ∧ rows.length ≤ 9223372036854775807 := by
    rcases Go.Deep.open_int_rows Try.underlying23 Try.underlying22 Try.underlying3 cells_ints cells_int h1 with ⟨hcs, hx⟩ | ⟨a, len, cap, A, L, C, Z, hcs, _, hl, hm, _, hr⟩
    · exact ⟨[], ⟨none, 0, by simpa using hcs, fun j hj => absurd hj (Nat.not_lt_zero j)⟩, Nat.zero_le _⟩
    · simp only [List.cons.injEq, and_true] at hcs
      subst hcs
      have hml : maxLen = 9223372036854775807 := by decide
      have hll : ((List.range len).map fun r => (Z r).take (L r)).length = len := by simp
      refine ⟨(List.range len).map fun r => (Z r).take (L r), ⟨some a, cap, by rw [hll], fun j hj => ?_⟩, by rw [hll]; omega⟩
      rw [hll] at hj
      obtain ⟨r0, r1, r2, r3, r4, r5, r6⟩ := hr j (by omega)
      obtain ⟨b, off, spot⟩ := a
      have hspot : spot = none := by simpa [Addr.add] using World.cell?_spot (hr 0 (by omega)).1
      subst hspot
      have hbW : b < W.heap.size := by simpa [Addr.add] using World.block_lt_of_cell? W _ (hr 0 (by omega)).1
      have eg : ((List.range len).map fun r => (Z r).take (L r)).getD j [] = (Z j).take (L j) := by simp [List.getD, hj]
      refine ⟨b, off, _, rfl, hbW, by rw [← add_plain]; exact r0, ?_⟩
      rw [eg]
      cases hA : A j with
      | none =>
        have hC := r5 hA
        have hL : L j = 0 := by omega
        rw [hL, hC]
        exact .inl ⟨rfl, rfl⟩
      | some a' => exact ints_of (by omega) (fun i hi => (r6 a' hA).2 i (by omega))
  have C2 : ∃ accs, BoolsR W v2 accs := by
    rcases Go.Deep.open_bools Try.underlying24 Try.underlying4 cells_bool h2 with ⟨hcs, hx⟩ | ⟨a, len, cap, B, hcs, _, hl, hm, _, hr⟩
    · exact ⟨[], none, 0, by simpa using hcs, fun j hj => absurd hj (Nat.not_lt_zero j)⟩
    · simp only [List.cons.injEq, and_true] at hcs
      subst hcs
      have hll : ((List.range len).map B).length = len := by simp
      refine ⟨(List.range len).map B, some a, cap, by rw [hll], fun j hj => ?_⟩
      rw [hll] at hj
      have r0 := hr j (by omega)
      obtain ⟨b, off, spot⟩ := a
      have hspot : spot = none := by simpa [Addr.add] using World.cell?_spot (hr 0 (by omega))
      subst hspot
      have hbW : b < W.heap.size := by simpa [Addr.add] using World.block_lt_of_cell? W _ (hr 0 (by omega))
      have eg : ((List.range len).map B).getD j false = B j := by simp [List.getD, hj]
      exact ⟨b, off, rfl, hbW, by rw [← add_plain, eg]; exact r0⟩
  obtain ⟨cs, c0⟩ := C0
  obtain ⟨rows, c1, hn⟩ := C1
  obtain ⟨accs, c2⟩ := C2
  exact ⟨v0, v1, v2, cs, rows, accs, rfl, ⟨c0, c1, c2⟩, hn⟩

set_option maxHeartbeats 2000000 in
theorem check_not {w : World} {cv nv av : Value} {cs : List Int} {rows : List (List Int)} {accs : List Bool} (h : DfaR w cv nv av cs rows accs) (hl : LightD cs rows accs) (hm : ¬ MayD cs rows accs) :
    Calls Try.prog 10 #[.agg #[cv, nv, av]] w fun e w' => e = .returned (.int .i64 2) ∧ Below w.heap.size w w' := by
  have hb0 : Below w.heap.size w (w.alloc (.cells #[cv, nv, av] 26)) := (Below.refl _ _).alloc (Nat.le_refl _) _
  have C := Lib.hid (read_not (h.below hb0) hl hm)
  obtain ⟨ac, cc, hcv, _⟩ := h.cls.reads
  obtain ⟨an, cn, hnv, _⟩ := h.rows
  obtain ⟨aa, ca, hav, _⟩ := h.accs
  subst hcv hnv hav
  replace hb0 := Lib.hid hb0
  clear h hl hm
  go_enter Try.func10, Try.ntmps10
  go_wp2_with fail
  refine C.out.mono ?_
  rintro e w1 ⟨rfl, hb1⟩
  have hb := hb0.out.trans (hb1.mono hb0.out.size)
  clear hb1 hb0 C
  go_wp2
  go_ret
  exact ⟨rfl, hb⟩

/-- Is a table gone through by the laws? -/
def lightB (cs : List Int) (rows : List (List Int)) (accs : List Bool) : Bool := (rows.all fun r => decide (r.length ≤ 300)) && (decide (cs.length ≤ 300) && decide (rows.length ≤ 300) && decide (accs.length ≤ 300))

set_option maxRecDepth 100000 in
set_option maxHeartbeats 2000000 in
theorem lightD_any {w : World} {cv nv av : Value} {cs : List Int} {rows : List (List Int)} {accs : List Bool} (h : DfaR w cv nv av cs rows accs) (hn : rows.length ≤ 9223372036854775807) :
    Calls Try.prog 17 #[.agg #[cv, nv, av]] w fun e w' => e = .returned (.bool (lightB cs rows accs)) ∧ Below w.heap.size w w' := by
  obtain ⟨ac, cc, hcv, _⟩ := h.cls.reads
  obtain ⟨an, cn, hnv, hrows⟩ := h.rows
  obtain ⟨aa, ca, hav, _⟩ := h.accs
  subst hcv hnv hav
  have HRow : Hid (∀ W, Below w.heap.size w W → ∀ j, j < rows.length → ∃ b off a cap, an = some ⟨b, off, none⟩ ∧ W.cell? ⟨b, off + j, none⟩ = some (.slice a (rows.getD j []).length cap)) := Lib.hid (fun W hW j hj => by
    obtain ⟨b, off, x, e1, h1, h2, h3⟩ := hrows j hj
    obtain ⟨a, cap, e, _⟩ := h3.reads
    subst e
    exact ⟨b, off, a, cap, e1, (hW.cell (p := ⟨b, off + j, none⟩) h1).trans h2⟩)
  obtain ⟨n, hnn⟩ : ∃ n, rows.length = n := ⟨_, rfl⟩
  obtain ⟨m, hmm⟩ : ∃ m, accs.length = m := ⟨_, rfl⟩
  obtain ⟨cl, hcl⟩ : ∃ cl, cs.length = cl := ⟨_, rfl⟩
  obtain ⟨R, hR⟩ : ∃ R, lightB cs rows accs = R := ⟨_, rfl⟩
  have HR : Hid (((rows.all fun r => decide (r.length ≤ 300)) && (decide (cl ≤ 300) && decide (n ≤ 300) && decide (m ≤ 300))) = R) := Lib.hid (by rw [← hR, ← hcl, ← hmm, ← hnn]; rfl)
  have HN := Lib.hid hnn
  rw [hnn] at HRow hn
  rw [hR, hnn, hmm, hcl]
  have hb0 : Below w.heap.size w (w.alloc (.cells #[.slice ac cl cc, .slice an n cn, .slice aa m ca] 26)) := (Below.refl _ _).alloc (Nat.le_refl _) _
  have hb0' := Lib.hid hb0
  clear hrows h hR hnn hmm hcl hb0
  go_enter Try.func17, Try.ntmps17
  go_wp2_with fail
  go_loopg [3] n (fun gk s3 wr => ∃ k : Nat, k + gk = n ∧ s3 = .int .i64 k ∧ wr = (w.alloc (.cells #[.slice ac cl cc, .slice an n cn, .slice aa m ca] 26)) ∧ Hid (∀ j, j < k → (rows.getD j []).length ≤ 300))
  case atStart => exact ⟨0, by omega, rfl, rfl, Lib.hid (fun j hj => absurd hj (Nat.not_lt_zero j))⟩
  case round =>
    obtain ⟨k, hkg, rfl, rfl, HI⟩ := hrel
    cases gk with
    | zero =>
      have hkz : ¬ ((k : Int) < (n : Int)) := by omega
      have HE : Hid ((decide (cl ≤ 300) && decide (n ≤ 300) && decide (m ≤ 300)) = R) := Lib.hid (by
        rw [← HR.out]
        have : (rows.all fun r => decide (r.length ≤ 300)) = true := by
          rw [List.all_eq_true]
          intro r hr
          obtain ⟨j, hj, e⟩ := List.mem_iff_getElem.1 hr
          have := HI.out j (by have := HN.out; omega)
          rw [show rows.getD j [] = r by simp [List.getD, hj, e]] at this
          exact decide_eq_true this
        rw [this, Bool.true_and])
      have e1 : decide (cl ≤ 300) = decide ((cl : Int) ≤ 300) := by
        by_cases h : cl ≤ 300
        · rw [decide_eq_true h, decide_eq_true (by omega)]
        · rw [decide_eq_false h, decide_eq_false (by omega)]
      have e2 : decide (n ≤ 300) = decide ((n : Int) ≤ 300) := by
        by_cases h : n ≤ 300
        · rw [decide_eq_true h, decide_eq_true (by omega)]
        · rw [decide_eq_false h, decide_eq_false (by omega)]
      have e3 : decide (m ≤ 300) = decide ((m : Int) ≤ 300) := by
        by_cases h : m ≤ 300
        · rw [decide_eq_true h, decide_eq_true (by omega)]
        · rw [decide_eq_false h, decide_eq_false (by omega)]
      rw [e1, e2, e3] at HE
      clear e1 e2 e3 HR HI HN HRow
      by_cases q1 : (cl : Int) ≤ 300
      · have d1 : decide ((cl : Int) ≤ 300) = true := decide_eq_true q1
        by_cases q2 : (n : Int) ≤ 300
        · have d2 : decide ((n : Int) ≤ 300) = true := decide_eq_true q2
          rw [d1, d2] at HE
          simp only [Bool.true_and, Bool.and_self] at HE
          go_wp2_with fail
          go_ret
          exact ⟨by rw [← HE.out]; try rfl, hb0'.out⟩
        · have d2 : decide ((n : Int) ≤ 300) = false := decide_eq_false q2
          rw [d2] at HE
          simp only [Bool.and_false, Bool.false_and] at HE
          go_wp2_with fail
          go_ret
          exact ⟨by rw [← HE.out]; try rfl, hb0'.out⟩
      · have d1 : decide ((cl : Int) ≤ 300) = false := decide_eq_false q1
        rw [d1] at HE
        simp only [Bool.false_and] at HE
        go_wp2_with fail
        go_ret
        exact ⟨by rw [← HE.out]; try rfl, hb0'.out⟩
    | succ g' =>
      have hkz : (k : Int) < (n : Int) := by omega
      have hkn : k < n := by omega
      obtain ⟨b1, o1, a1, p1, rfl, x1⟩ := HRow.out _ hb0'.out k hkn
      obtain ⟨row, hrow⟩ : ∃ row, rows.getD k [] = row := ⟨_, rfl⟩
      rw [hrow] at x1
      replace hrow := Lib.hid hrow
      obtain ⟨L, hLe⟩ : ∃ L, row.length = L := ⟨_, rfl⟩
      rw [hLe] at x1
      replace hLe := Lib.hid hLe
      clear HRow
      by_cases q : (300 : Int) < (L : Int)
      · have d : decide ((300 : Int) < (L : Int)) = true := decide_eq_true q
        have HE : Hid (R = false) := Lib.hid (by
          rw [← HR.out]
          have : (rows.all fun r => decide (r.length ≤ 300)) = false := by
            rw [Bool.eq_false_iff, Ne, List.all_eq_true]
            intro h
            have hk : k < rows.length := by have := HN.out; omega
            have := h (rows.getD k []) (by simp [List.getD, hk])
            rw [hrow.out, hLe.out] at this
            have := of_decide_eq_true this
            omega
          rw [this, Bool.false_and])
        go_wp2_with fail
        try rw [Exit.noGoto_ret]
        go_ret
        exact ⟨by rw [HE.out]; try rfl, hb0'.out⟩
      · have d : decide ((300 : Int) < (L : Int)) = false := decide_eq_false q
        go_wp2_with fail
        go_roundg g'
        case measure => omega
        case rel => exact ⟨k + 1, by omega, iv (by omega), rfl, Lib.hid (fun j hj => by
          by_cases e : j = k
          · subst e; rw [hrow.out, hLe.out]; omega
          · exact HI.out j (by omega))⟩
end Go.Proofs.Ytlaomiahjihahaa
