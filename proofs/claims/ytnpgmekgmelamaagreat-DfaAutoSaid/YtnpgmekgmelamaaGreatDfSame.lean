/-
  What is proved: dfa.Same tells of two tables in memory whether all fields are equal. What lay in memory before stands as it stood.
-/
import Derived.Test.YtnpgmekgmelamaaGreatDfMake
import Derived.Handy
namespace Go.Proofs.YtnpgmekgmelamaaGreat
open Go.RowKit Go.Shelf Go.Maps

theorem drewN_below (W : World) (q : Nat) : Below W.heap.size W (W.drewN q) := below_drewN (Below.refl _ _) q

theorem equalI_any {W : World} {v1 v2 : Value} {xs ys : List Int} (h1 : Ints W v1 xs) (h2 : Ints W v2 ys) (hx : xs.length ≤ 1000000) (hy : ys.length ≤ 1000000) :
    Calls Tryz.prog 60 #[v1, v2] W fun e w' => e = .returned (.bool (xs == ys)) ∧ ∃ q, w' = W.drewN q := by
  obtain ⟨a1, c1, rfl, _⟩ := h1.reads
  obtain ⟨a2, c2, rfl, _⟩ := h2.reads
  by_cases hl : xs.length = ys.length
  · by_cases hp : 0 < xs.length
    · obtain ⟨b1, o1, rfl, _, k1⟩ := slice_addr xs h1 hp
      obtain ⟨b2, o2, rfl, _, k2⟩ := slice_addr ys h2 (by omega)
      refine (Tryz.slices_Equal_int b1 o1 xs.length c1 b2 o2 ys.length c2 xs ys W (Nat.le_refl _) (Nat.le_refl _) (by omega) (by omega) k1 k2).mono ?_
      rintro e w' ⟨rfl, h⟩
      rw [List.take_length, List.take_length]
      exact ⟨rfl, h⟩
    · obtain rfl : xs = [] := List.length_eq_zero_iff.1 (by omega)
      obtain rfl : ys = [] := List.length_eq_zero_iff.1 (by simpa using hl.symm)
      refine (Tryz.slices_Equal_int_empty a1 a2 c1 0 c2 W (by omega)).mono ?_
      rintro e w' ⟨rfl, rfl⟩
      exact ⟨rfl, 0, rfl⟩
  · refine (Tryz.slices_Equal_int_lens a1 a2 xs.length c1 ys.length c2 W hl).mono ?_
    rintro e w' ⟨rfl, rfl⟩
    refine ⟨?_, 0, rfl⟩
    rw [beq_eq_false_iff_ne.2 (fun e => hl (by rw [e]))]

theorem blist_same {a b : List Bool} (hl : a.length = b.length) (h : ∀ j, j < a.length → a.getD j false = b.getD j false) : a = b := by
  apply List.ext_getElem hl
  intro j h1 h2
  have := h j h1
  simpa [List.getD, h1, h2] using this
theorem iadd {k : Nat} : ∀ {x : Int}, x = (k : Int) → Value.int .i64 x = .int .i64 (k : Int) := fun e => by rw [e]

set_option maxHeartbeats 2000000 in
theorem equalB_any {w : World} {v1 v2 : Value} {a b : List Bool} (h1 : BoolsR w v1 a) (h2 : BoolsR w v2 b) (ha : a.length ≤ 1000000) :
    Calls Tryz.prog 62 #[v1, v2] w fun e w' => e = .returned (.bool (a == b)) ∧ Below w.heap.size w w' := by
  have R1 := Lib.hid (fun (W : World) (hW : Below w.heap.size w W) => h1.below hW)
  have R2 := Lib.hid (fun (W : World) (hW : Below w.heap.size w W) => h2.below hW)
  obtain ⟨p1, c1, rfl, _⟩ := h1
  obtain ⟨p2, c2, rfl, _⟩ := h2
  by_cases hl : a.length = b.length
  · have HL := Lib.hid hl
    have Q1 : Hid (∀ W, Below w.heap.size w W → ∀ k, k < a.length → ∃ b' off, p1 = some ⟨b', off, none⟩ ∧ W.cell? ⟨b', off + k, none⟩ = some (.bool (a.getD k false))) := Lib.hid (fun W hW k hk => by
      obtain ⟨p, c, e, h⟩ := R1.out W hW
      obtain ⟨b', off, e2, _, h3⟩ := h k hk
      injection e with e
      exact ⟨b', off, e.trans e2, h3⟩)
    have Q2 : Hid (∀ W, Below w.heap.size w W → ∀ k, k < a.length → ∃ b' off, p2 = some ⟨b', off, none⟩ ∧ W.cell? ⟨b', off + k, none⟩ = some (.bool (b.getD k false))) := Lib.hid (fun W hW k hk => by
      obtain ⟨p, c, e, h⟩ := R2.out W hW
      obtain ⟨b', off, e2, _, h3⟩ := h k (by omega)
      injection e with e
      exact ⟨b', off, e.trans e2, h3⟩)
    obtain ⟨R, HR⟩ : ∃ R, Hid ((a == b) = R) := ⟨_, Lib.hid rfl⟩
    rw [HR.out, ← hl]
    clear hl R1 R2
    have hB0 := Lib.hid (Below.refl w.heap.size w)
    go_enter Tryz.func62, Tryz.ntmps62
    go_wp2
    go_loopg [13] a.length (fun gk s13 wr => ∃ k : Nat, k + gk = a.length ∧ s13 = .int .i64 k ∧ Hid (∀ j, j < k → a.getD j false = b.getD j false) ∧ Hid (Below w.heap.size w wr))
    case atStart => exact ⟨0, by omega, rfl, Lib.hid (fun j hj => absurd hj (Nat.not_lt_zero j)), hB0⟩
    case round =>
      obtain ⟨k, hkg, rfl, HI, HB⟩ := hrel
      clear hB0
      cases gk with
      | zero =>
        have hkz : ¬ ((k : Int) < (a.length : Int)) := by omega
        have HE : Hid (R = true) := Lib.hid (by
          rw [← HR.out, blist_same HL.out (fun j hj => HI.out j (by omega))]; simp)
        go_wp2
        go_ret
        rw [HE.out]
        exact ⟨rfl, HB.out⟩
      | succ g' =>
        have hkz : (k : Int) < (a.length : Int) := by omega
        have hkn : k < a.length := by omega
        obtain ⟨b1, o1, rfl, x1⟩ := Q1.out wr HB.out k hkn
        obtain ⟨b2, o2, rfl, x2⟩ := Q2.out wr HB.out k hkn
        obtain ⟨x, hx⟩ : ∃ x, a.getD k false = x := ⟨_, rfl⟩
        obtain ⟨y, hy⟩ : ∃ y, b.getD k false = y := ⟨_, rfl⟩
        rw [hx] at x1
        rw [hy] at x2
        by_cases e : x = y
        · have HE : Hid (a.getD k false = b.getD k false) := Lib.hid (by rw [hx, hy, e])
          clear hx hy
          subst e
          go_wp2
          go_quiet (fail)
          go_wp2
          go_roundg g'
          case measure => omega
          case rel => exact ⟨k + 1, by omega, by go_num, Lib.hid (fun j hj => by
            by_cases ej : j = k
            · subst ej; exact HE.out
            · exact HI.out j (by omega)), Lib.hid (below_drewN HB.out _)⟩
        · have HE : Hid (R = false) := Lib.hid (by
            rw [← HR.out, beq_eq_false_iff_ne]
            intro h; apply e; rw [← hx, ← hy, h])
          clear hx hy
          have ey : y = !x := by cases x <;> cases y <;> simp_all
          subst ey
          clear e
          cases x
          all_goals
            go_wp2
            go_quiet (fail)
            go_wp2
            go_ret
            rw [HE.out]
            exact ⟨rfl, below_drewN HB.out _⟩
  · have HE : Hid ((a == b) = false) := Lib.hid (by
      rw [beq_eq_false_iff_ne]
      intro h; exact hl (by rw [h]))
    have hne : ¬ ((a.length : Int) = (b.length : Int)) := by omega
    rw [HE.out]
    clear hl R1 R2
    go_enter Tryz.func62, Tryz.ntmps62
    go_wp2
    go_ret
    exact ⟨rfl, Below.refl _ _⟩

theorem rows_same {a b : List (List Int)} (hl : a.length = b.length) (h : ∀ j, j < a.length → a.getD j [] = b.getD j []) : a = b := by
  apply List.ext_getElem hl
  intro j h1 h2
  have := h j h1
  simpa [List.getD, h1, h2] using this

set_option maxHeartbeats 2000000 in
theorem equalF_any {w : World} {v1 v2 : Value} {a b : List (List Int)} (h1 : RowsR w v1 a) (h2 : RowsR w v2 b) (ha : a.length ≤ 1000000) (hla : ∀ j, j < a.length → (a.getD j []).length ≤ 1000000) (hlb : ∀ j, j < b.length → (b.getD j []).length ≤ 1000000) :
    Calls Tryz.prog 61 #[v1, v2, .func (.func 60) #[] #[]] w fun e w' => e = .returned (.bool (a == b)) ∧ Below w.heap.size w w' := by
  have R1 := Lib.hid (fun (W : World) (hW : Below w.heap.size w W) => h1.below hW)
  have R2 := Lib.hid (fun (W : World) (hW : Below w.heap.size w W) => h2.below hW)
  obtain ⟨p1, c1, rfl, _⟩ := h1
  obtain ⟨p2, c2, rfl, _⟩ := h2
  by_cases hl : a.length = b.length
  · have HL := Lib.hid hl
    have Q1 : Hid (∀ W, Below w.heap.size w W → ∀ k, k < a.length → ∃ b' off x, p1 = some ⟨b', off, none⟩ ∧ W.cell? ⟨b', off + k, none⟩ = some x ∧ Ints W x (a.getD k [])) := Lib.hid (fun W hW k hk => by
      obtain ⟨p, c, e, h⟩ := R1.out W hW
      obtain ⟨b', off, x, e2, _, h3, h4⟩ := h k hk
      injection e with e
      exact ⟨b', off, x, e.trans e2, h3, h4⟩)
    have Q2 : Hid (∀ W, Below w.heap.size w W → ∀ k, k < a.length → ∃ b' off x, p2 = some ⟨b', off, none⟩ ∧ W.cell? ⟨b', off + k, none⟩ = some x ∧ Ints W x (b.getD k [])) := Lib.hid (fun W hW k hk => by
      obtain ⟨p, c, e, h⟩ := R2.out W hW
      obtain ⟨b', off, x, e2, _, h3, h4⟩ := h k (by omega)
      injection e with e
      exact ⟨b', off, x, e.trans e2, h3, h4⟩)
    have LA := Lib.hid hla
    have LB := Lib.hid hlb
    obtain ⟨R, HR⟩ : ∃ R, Hid ((a == b) = R) := ⟨_, Lib.hid rfl⟩
    rw [HR.out, ← hl]
    clear hl R1 R2 hla hlb
    have hB0 := Lib.hid (Below.refl w.heap.size w)
    go_enter Tryz.func61, Tryz.ntmps61
    go_wp2
    go_loopg [17] a.length (fun gk s17 wr => ∃ k : Nat, k + gk = a.length ∧ s17 = .int .i64 k ∧ Hid (∀ j, j < k → a.getD j [] = b.getD j []) ∧ Hid (Below w.heap.size w wr))
    case atStart => exact ⟨0, by omega, rfl, Lib.hid (fun j hj => absurd hj (Nat.not_lt_zero j)), hB0⟩
    case round =>
      obtain ⟨k, hkg, rfl, HI, HB⟩ := hrel
      clear hB0
      cases gk with
      | zero =>
        have hkz : ¬ ((k : Int) < (a.length : Int)) := by omega
        have HE : Hid (R = true) := Lib.hid (by
          rw [← HR.out, rows_same HL.out (fun j hj => HI.out j (by omega))]; simp)
        go_wp2
        go_ret
        rw [HE.out]
        exact ⟨rfl, HB.out⟩
      | succ g' =>
        have hkz : (k : Int) < (a.length : Int) := by omega
        have hkn : k < a.length := by omega
        obtain ⟨b1, o1, v1, rfl, x1, i1⟩ := Q1.out wr HB.out k hkn
        obtain ⟨b2, o2, v2, rfl, x2, i2⟩ := Q2.out wr HB.out k hkn
        have CE := Lib.hid (equalI_any i1 i2 (LA.out k hkn) (LB.out k (by have := HL.out; omega)))
        obtain ⟨a1, c1, rfl, _⟩ := i1.reads
        obtain ⟨a2, c2, rfl, _⟩ := i2.reads
        clear i1 i2
        by_cases e : a.getD k [] = b.getD k []
        · have HE := Lib.hid e
          have CE2 : Hid (Calls Tryz.prog 60 #[.slice a1 (a.getD k []).length c1, .slice a2 (b.getD k []).length c2] wr fun e w' => e = .returned (.bool true) ∧ ∃ q, w' = wr.drewN q) := Lib.hid (by
            have := CE.out
            rwa [beq_iff_eq.2 e] at this)
          obtain ⟨n1, hn1⟩ : ∃ n1, (a.getD k []).length = n1 := ⟨_, rfl⟩
          obtain ⟨n2, hn2⟩ : ∃ n2, (b.getD k []).length = n2 := ⟨_, rfl⟩
          rw [hn1, hn2] at CE2
          rw [hn1] at x1
          rw [hn2] at x2
          clear CE e hn1 hn2
          go_wp2_with fail
          refine CE2.out.mono ?_
          rintro e w2 ⟨rfl, q, rfl⟩
          go_wp2
          go_roundg g'
          case measure => omega
          case rel => exact ⟨k + 1, by omega, by go_num, Lib.hid (fun j hj => by
            by_cases ej : j = k
            · subst ej; exact HE.out
            · exact HI.out j (by omega)), Lib.hid (below_drewN HB.out _)⟩
        · have HE : Hid (R = false) := Lib.hid (by
            rw [← HR.out, beq_eq_false_iff_ne]
            intro h; apply e; rw [h])
          have CE2 : Hid (Calls Tryz.prog 60 #[.slice a1 (a.getD k []).length c1, .slice a2 (b.getD k []).length c2] wr fun e w' => e = .returned (.bool false) ∧ ∃ q, w' = wr.drewN q) := Lib.hid (by
            have := CE.out
            rwa [beq_eq_false_iff_ne.2 e] at this)
          obtain ⟨n1, hn1⟩ : ∃ n1, (a.getD k []).length = n1 := ⟨_, rfl⟩
          obtain ⟨n2, hn2⟩ : ∃ n2, (b.getD k []).length = n2 := ⟨_, rfl⟩
          rw [hn1, hn2] at CE2
          rw [hn1] at x1
          rw [hn2] at x2
          clear CE e hn1 hn2
          go_wp2_with fail
          refine CE2.out.mono ?_
          rintro e w2 ⟨rfl, q, rfl⟩
          go_wp2
          go_ret
          rw [HE.out]
          exact ⟨rfl, below_drewN HB.out _⟩
  · have HE : Hid ((a == b) = false) := Lib.hid (by
      rw [beq_eq_false_iff_ne]
      intro h; exact hl (by rw [h]))
    have hne : ¬ ((a.length : Int) = (b.length : Int)) := by omega
    rw [HE.out]
    clear hl R1 R2
    go_enter Tryz.func61, Tryz.ntmps61
    go_wp2
    go_ret
    exact ⟨rfl, Below.refl _ _⟩

set_option maxHeartbeats 2000000 in
/-- dfa.Same, of tables that are the same. -/
theorem same_yes {w : World} {u1 u2 u3 v1 v2 v3 : Value} {cs : List Int} {rows : List (List Int)} {accs : List Bool} (h1 : DfaR w u1 u2 u3 cs rows accs) (h2 : DfaR w v1 v2 v3 cs rows accs) (hl : LightD cs rows accs) :
    Calls Tryz.prog 19 #[.agg #[u1, u2, u3], .agg #[v1, v2, v3]] w fun e w' => e = .returned (.bool true) ∧ Below w.heap.size w w' := by
  obtain ⟨l1, l2, l3, l4⟩ := hl
  have C1 : Hid (∀ W, Below w.heap.size w W → Calls Tryz.prog 60 #[u1, v1] W fun e w' => e = .returned (.bool true) ∧ ∃ q, w' = W.drewN q) := Lib.hid (fun W hW => by
    have := equalI_any (h1.below hW).cls (h2.below hW).cls l1 l1
    rwa [beq_self_eq_true] at this)
  have C2 : Hid (∀ W, Below w.heap.size w W → Calls Tryz.prog 61 #[u2, v2, .func (.func 60) #[] #[]] W fun e w' => e = .returned (.bool true) ∧ Below W.heap.size W w') := Lib.hid (fun W hW => by
    have := equalF_any (h1.below hW).rows (h2.below hW).rows l2 l4 l4
    rwa [beq_self_eq_true] at this)
  have C3 : Hid (∀ W, Below w.heap.size w W → Calls Tryz.prog 62 #[u3, v3] W fun e w' => e = .returned (.bool true) ∧ Below W.heap.size W w') := Lib.hid (fun W hW => by
    have := equalB_any (h1.below hW).accs (h2.below hW).accs l3
    rwa [beq_self_eq_true] at this)
  obtain ⟨a1, c1, rfl, _⟩ := h1.cls.reads
  obtain ⟨a2, c2, rfl, _⟩ := h1.rows
  obtain ⟨a3, c3, rfl, _⟩ := h1.accs
  obtain ⟨b1, d1, rfl, _⟩ := h2.cls.reads
  obtain ⟨b2, d2, rfl, _⟩ := h2.rows
  obtain ⟨b3, d3, rfl, _⟩ := h2.accs
  obtain ⟨n1, hn1⟩ : ∃ n1, cs.length = n1 := ⟨_, rfl⟩
  obtain ⟨n2, hn2⟩ : ∃ n2, rows.length = n2 := ⟨_, rfl⟩
  obtain ⟨n3, hn3⟩ : ∃ n3, accs.length = n3 := ⟨_, rfl⟩
  rw [hn1] at C1
  rw [hn2] at C2
  rw [hn3] at C3
  rw [hn1, hn2, hn3]
  clear h1 h2 l1 l2 l3 l4 hn1 hn2 hn3
  obtain ⟨W1, hW1⟩ : ∃ W1, w.alloc (.cells #[.slice a1 n1 c1, .slice a2 n2 c2, .slice a3 n3 c3] 26) = W1 := ⟨_, rfl⟩
  obtain ⟨W2, hW2⟩ : ∃ W2, W1.alloc (.cells #[.slice b1 n1 d1, .slice b2 n2 d2, .slice b3 n3 d3] 26) = W2 := ⟨_, rfl⟩
  have z1 : W1.heap.size = w.heap.size + 1 := by rw [← hW1]; simp
  have z2 : W2.heap.size = w.heap.size + 2 := by rw [← hW2]; simp [z1]
  have hb1 : Below w.heap.size w W1 := by rw [← hW1]; exact (Below.refl _ _).alloc (Nat.le_refl _) _
  have hb12 : Below W1.heap.size W1 W2 := by rw [← hW2]; exact (Below.refl _ _).alloc (Nat.le_refl _) _
  have hb2 := Lib.hid (hb1.trans (hb12.mono (by omega)))
  have k1 : ∀ i, W2.cell? ⟨w.heap.size, i, none⟩ = (#[.slice a1 n1 c1, .slice a2 n2 c2, .slice a3 n3 c3] : Array Value)[i]? := fun i => (hb12.cell (p := ⟨w.heap.size, i, none⟩) (by rw [z1]; exact Nat.lt_succ_self _)).trans (by rw [← hW1]; exact World.cell?_alloc_new ..)
  have k2 : ∀ i, W2.cell? ⟨W1.heap.size, i, none⟩ = (#[.slice b1 n1 d1, .slice b2 n2 d2, .slice b3 n3 d3] : Array Value)[i]? := fun i => by
    rw [← hW2]; exact World.cell?_alloc_new ..
  have K1 := Lib.hid k1
  have K2 := Lib.hid k2
  have Z2 := Lib.hid z2
  have Z1 := Lib.hid z1
  clear hb1 hb12 k1 k2 z1 z2
  go_enter Tryz.func19, Tryz.ntmps19
  have f1 : W2.cell? ⟨w.heap.size, 0, none⟩ = some (.slice a1 n1 c1) := K1.out 0
  have f2 : W2.cell? ⟨w.heap.size, 1, none⟩ = some (.slice a2 n2 c2) := K1.out 1
  have f3 : W2.cell? ⟨W1.heap.size, 0, none⟩ = some (.slice b1 n1 d1) := K2.out 0
  have f4 : W2.cell? ⟨W1.heap.size, 1, none⟩ = some (.slice b2 n2 d2) := K2.out 1
  go_wp2_with fail
  refine (C1.out _ hb2.out).mono ?_
  rintro e w3 ⟨rfl, q, rfl⟩
  have hb3 := Lib.hid (below_drewN hb2.out q)
  go_wp2_with fail
  refine (C2.out _ hb3.out).mono ?_
  rintro e w4 ⟨rfl, hb4⟩
  have hb34 := Lib.hid (hb3.out.trans (hb4.mono hb3.out.size))
  have f5 : w4.cell? ⟨w.heap.size, 2, none⟩ = some (.slice a3 n3 c3) := (hb4.cell (p := ⟨w.heap.size, 2, none⟩) (by show w.heap.size < W2.heap.size; rw [Z2.out]; omega)).trans (K1.out 2)
  have f6 : w4.cell? ⟨W1.heap.size, 2, none⟩ = some (.slice b3 n3 d3) := (hb4.cell (p := ⟨W1.heap.size, 2, none⟩) (by show W1.heap.size < W2.heap.size; rw [Z1.out, Z2.out]; omega)).trans (K2.out 2)
  clear hb4
  go_wp2_with fail
  refine (C3.out _ hb34.out).mono ?_
  rintro e w5 ⟨rfl, hb5⟩
  have hbf := hb34.out.trans (hb5.mono hb34.out.size)
  clear hb5
  go_wp2
  go_ret
  exact ⟨rfl, hbf⟩
end Go.Proofs.YtnpgmekgmelamaaGreat
