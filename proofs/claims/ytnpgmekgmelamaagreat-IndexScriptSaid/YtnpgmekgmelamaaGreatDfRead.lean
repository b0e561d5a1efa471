/-
  What is proved: what dfa.areBelow, dfa.read and (*table).match return on tables in memory. What lay in memory before stands as it stood.
-/
import Derived.Test.YtnpgmekgmelamaaGreatDfBld
namespace Go.Proofs.YtnpgmekgmelamaaGreat
open Go.RowKit Go.Shelf Go.Maps

/-! Tables that came in -/
def RowsR (W : World) (nv : Value) (rows : List (List Int)) : Prop := ∃ a cap, nv = .slice a rows.length cap ∧ ∀ j, j < rows.length → ∃ b off x, a = some ⟨b, off, none⟩ ∧ b < W.heap.size ∧ W.cell? ⟨b, off + j, none⟩ = some x ∧ Ints W x (rows.getD j [])
def BoolsR (W : World) (av : Value) (accs : List Bool) : Prop := ∃ a cap, av = .slice a accs.length cap ∧ ∀ j, j < accs.length → ∃ b off, a = some ⟨b, off, none⟩ ∧ b < W.heap.size ∧ W.cell? ⟨b, off + j, none⟩ = some (.bool (accs.getD j false))
theorem RowsR.below {W W' : World} {nv : Value} {rows : List (List Int)} (h : RowsR W nv rows) (hb : Below W.heap.size W W') : RowsR W' nv rows := by
  obtain ⟨a, cap, e, h⟩ := h
  refine ⟨a, cap, e, fun j hj => ?_⟩
  obtain ⟨b, off, x, e1, h1, h2, h3⟩ := h j hj
  exact ⟨b, off, x, e1, by have := hb.size; omega, (hb.cell (p := ⟨b, off + j, none⟩) h1).trans h2, h3.below hb⟩
theorem BoolsR.below {W W' : World} {av : Value} {accs : List Bool} (h : BoolsR W av accs) (hb : Below W.heap.size W W') : BoolsR W' av accs := by
  obtain ⟨a, cap, e, h⟩ := h
  refine ⟨a, cap, e, fun j hj => ?_⟩
  obtain ⟨b, off, e1, h1, h2⟩ := h j hj
  exact ⟨b, off, e1, by have := hb.size; omega, (hb.cell (p := ⟨b, off + j, none⟩) h1).trans h2⟩
theorem RowsAt.reads {W : World} {nv : Value} {rows : List (List Int)} (h : RowsAt W nv rows) : RowsR W nv rows := by
  obtain ⟨base, rvals, hown, h2⟩ := h
  obtain ⟨a, cap, e⟩ := row_slice hown
  have hl : rvals.length = rows.length := by have := hown.1; simpa using this
  refine ⟨a, cap, e, fun j hj => ?_⟩
  obtain ⟨g, cap', e', _, hg⟩ := hown.form (by omega)
  rw [e] at e'
  have ea : a = some ⟨g, 0, none⟩ := by injection e'
  obtain ⟨x, hx⟩ : ∃ x, rvals[j]? = some x := ⟨_, List.getElem?_eq_getElem (by omega)⟩
  have hc := hown.cells (g := g) (by rw [e, ea]; rfl) j x hx
  have e3 : (⟨g, 0, none⟩ : Addr).add j = ⟨g, 0 + j, none⟩ := by unfold Addr.add; split <;> simp_all
  rw [e3] at hc
  exact ⟨g, 0, x, ea, hg, hc, h2 j x hx⟩
theorem BoolsAt.reads {W : World} {av : Value} {accs : List Bool} (h : BoolsAt W av accs) : BoolsR W av accs := by
  obtain ⟨base, hown⟩ := h
  obtain ⟨a, cap, e⟩ := row_slice hown
  refine ⟨a, cap, e, fun j hj => ?_⟩
  obtain ⟨g, cap', e', _, hg⟩ := hown.form (by omega)
  rw [e] at e'
  have ea : a = some ⟨g, 0, none⟩ := by injection e'
  have hx : (accs.map Value.bool)[j]? = some (.bool (accs.getD j false)) := by
    rw [List.getElem?_map, List.getElem?_eq_getElem hj, List.getD_eq_getElem?_getD, List.getElem?_eq_getElem hj]; rfl
  have hc := hown.cells (g := g) (by rw [e, ea]; rfl) j _ hx
  have e3 : (⟨g, 0, none⟩ : Addr).add j = ⟨g, 0 + j, none⟩ := by unfold Addr.add; split <;> simp_all
  rw [e3] at hc
  exact ⟨g, 0, ea, hg, hc⟩

/-- Are all numbers from 0 on and below n? -/
def areL (n : Nat) (l : List Int) : Bool := l.all fun x => decide (0 ≤ x) && decide (x < n)
theorem areL_at {n : Nat} {l : List Int} (h : areL n l = true) {k : Nat} (hk : k < l.length) : 0 ≤ l.getD k 0 ∧ l.getD k 0 < n := by
  unfold areL at h
  rw [List.all_eq_true] at h
  have := h (l.getD k 0) (by simp [List.getD, hk])
  simpa using this
theorem areL_not {n : Nat} {l : List Int} {k : Nat} (hk : k < l.length) (h : ¬ (0 ≤ l.getD k 0 ∧ l.getD k 0 < n)) : areL n l = false := by
  cases e : areL n l with
  | false => rfl
  | true => exact absurd (areL_at e hk) h
theorem areL_all {n : Nat} {l : List Int} (h : ∀ k, k < l.length → 0 ≤ l.getD k 0 ∧ l.getD k 0 < n) : areL n l = true := by
  unfold areL
  rw [List.all_eq_true]
  intro x hx
  obtain ⟨k, hk, e⟩ := List.mem_iff_getElem.1 hx
  have := h k hk
  rw [show l.getD k 0 = x by simp [List.getD, hk, e]] at this
  simpa using this

set_option maxHeartbeats 2000000 in
theorem below_any {w : World} {v : Value} {l : List Int} (hv : Ints w v l) (hll : l.length ≤ 1000000) (n : Nat) :
    Calls Tryz.prog 91 #[.int .i64 (n : Int), v] w fun e w' => e = .returned (.bool (areL n l)) ∧ w' = w := by
  obtain ⟨a, cap, rfl, hcell⟩ := hv.reads
  obtain ⟨R, hR⟩ : ∃ R, areL n l = R := ⟨_, rfl⟩
  have HR := Lib.hid hR
  rw [hR]
  clear hR hv
  have hb0 := Lib.hid (Below.refl w.heap.size w)
  obtain ⟨m, hm⟩ : ∃ m, l.length = m := ⟨_, rfl⟩
  have HM := Lib.hid hm
  rw [hm] at hcell hll
  rw [hm]
  clear hm
  go_enter Tryz.func91, Tryz.ntmps91
  go_wp2
  go_loopg [6, 9] m (fun gk s6 s9 wr => ∃ k : Nat, k + gk = m ∧ s9 = .int .i64 k ∧ wr = w ∧ Hid (∀ j, j < k → 0 ≤ l.getD j 0 ∧ l.getD j 0 < n))
  case atStart => exact ⟨0, by omega, rfl, rfl, Lib.hid (fun j hj => absurd hj (Nat.not_lt_zero j))⟩
  case round =>
    obtain ⟨k, hkg, rfl, rfl, HI⟩ := hrel
    cases gk with
    | zero =>
      have hkz : ¬ ((k : Int) < (m : Int)) := by omega
      have HE : Hid (R = true) := Lib.hid (by rw [← HR.out]; exact areL_all (fun j hj => HI.out j (by have := HM.out; omega)))
      go_wp2
      go_ret
      exact ⟨by rw [HE.out]; rfl, rfl⟩
    | succ g' =>
      have hkz : (k : Int) < (m : Int) := by omega
      have hkm : k < m := by omega
      obtain ⟨b, off, rfl, hc⟩ := hcell.out _ hb0.out k hkm
      obtain ⟨x, hx⟩ : ∃ x, l.getD k 0 = x := ⟨_, rfl⟩
      rw [hx] at hc
      have HX := Lib.hid hx
      clear hx hcell hb0
      by_cases h0 : x < 0
      · have HE : Hid (R = false) := Lib.hid (by rw [← HR.out]; exact areL_not (k := k) (by have := HM.out; omega) (by rw [HX.out]; omega))
        have hd0 : decide (x < 0) = true := decide_eq_true h0
        go_wp2
        try rw [Exit.noGoto_ret]
        go_ret
        exact ⟨by rw [HE.out]; rfl, rfl⟩
      · have hd0 : decide (x < 0) = false := decide_eq_false h0
        by_cases h1 : (n : Int) ≤ x
        · have HE : Hid (R = false) := Lib.hid (by rw [← HR.out]; exact areL_not (k := k) (by have := HM.out; omega) (by rw [HX.out]; omega))
          have hd1 : decide ((n : Int) ≤ x) = true := decide_eq_true h1
          go_wp2
          try rw [Exit.noGoto_ret]
          go_ret
          exact ⟨by rw [HE.out]; rfl, rfl⟩
        · have hd1 : decide ((n : Int) ≤ x) = false := decide_eq_false h1
          go_wp2
          go_roundg g'
          case measure => omega
          case rel => exact ⟨k + 1, by omega, iv (by omega), rfl, Lib.hid (fun j hj => by
            by_cases e : j = k
            · subst e; rw [HX.out]; omega
            · exact HI.out j (by omega))⟩

/-! Which tables are valid -/
def mayB (cs : List Int) (rows : List (List Int)) (accs : List Bool) : Bool :=
  (decide (1 ≤ rows.length) && decide (rows.length ≤ 256) && decide (accs.length = rows.length)) &&
  ((decide (cs.length = 256) && areL (rows.getD 0 []).length cs) && rows.all fun r => decide (r.length = (rows.getD 0 []).length) && areL rows.length r)
structure MayD (cs : List Int) (rows : List (List Int)) (accs : List Bool) : Prop where
  pos : 1 ≤ rows.length
  most : rows.length ≤ 256
  accs : accs.length = rows.length
  len : cs.length = 256
  cls : areL (rows.getD 0 []).length cs = true
  row : ∀ j, j < rows.length → (rows.getD j []).length = (rows.getD 0 []).length ∧ areL rows.length (rows.getD j []) = true
theorem mayB_iff {cs : List Int} {rows : List (List Int)} {accs : List Bool} : mayB cs rows accs = true ↔ MayD cs rows accs := by
  unfold mayB
  constructor
  · intro h
    simp only [Bool.and_eq_true, decide_eq_true_eq, List.all_eq_true] at h
    obtain ⟨⟨⟨h1, h2⟩, h3⟩, ⟨h4, h5⟩, h6⟩ := h
    exact ⟨h1, h2, h3, h4, h5, fun j hj => h6 _ (by simp [List.getD, hj])⟩
  · intro h
    simp only [Bool.and_eq_true, decide_eq_true_eq, List.all_eq_true]
    refine ⟨⟨⟨h.pos, h.most⟩, h.accs⟩, ⟨h.len, h.cls⟩, fun r hr => ?_⟩
    obtain ⟨j, hj, e⟩ := List.mem_iff_getElem.1 hr
    have := h.row j hj
    rwa [show rows.getD j [] = r by simp [List.getD, hj, e]] at this

/-- A table value in memory: classes, rows, what accepts. -/
structure DfaR (W : World) (cv nv av : Value) (cs : List Int) (rows : List (List Int)) (accs : List Bool) : Prop where
  cls : Ints W cv cs
  rows : RowsR W nv rows
  accs : BoolsR W av accs
theorem DfaR.below {W W' : World} {cv nv av : Value} {cs : List Int} {rows : List (List Int)} {accs : List Bool} (h : DfaR W cv nv av cs rows accs) (hb : Below W.heap.size W W') : DfaR W' cv nv av cs rows accs := ⟨h.cls.below hb, h.rows.below hb, h.accs.below hb⟩
/-- Not too great to go through. -/
def LightD (cs : List Int) (rows : List (List Int)) (accs : List Bool) : Prop := cs.length ≤ 1000000 ∧ rows.length ≤ 1000000 ∧ accs.length ≤ 1000000 ∧ ∀ j, j < rows.length → (rows.getD j []).length ≤ 1000000

theorem slice_addr (cs : List Int) {a : Option Addr} {cap : Nat} {W : World} (h : Ints W (.slice a cs.length cap) cs) (hp : 0 < cs.length) : ∃ b off, a = some ⟨b, off, none⟩ ∧ b < W.heap.size ∧ ∀ j, j < cs.length → W.cell? ⟨b, off + j, none⟩ = some (.int .i64 (cs.getD j 0)) := by
  rcases h with ⟨e, e2⟩ | ⟨a', cap', e, e2⟩ | ⟨b, off, cap', e, hlt, hc⟩
  · subst e2; simp at hp
  · subst e2; simp at hp
  · exact ⟨b, off, by injection e, hlt, hc⟩

/-- The classes as numbers. -/
def clsD (cs : List Int) (i : Nat) : Nat := (cs.getD i 0).toNat

set_option maxRecDepth 100000 in
set_option maxHeartbeats 4000000 in
theorem read_ok {w : World} {cv nv av : Value} {cs : List Int} {rows : List (List Int)} {accs : List Bool} (h : DfaR w cv nv av cs rows accs) (hl : LightD cs rows accs) (hm : MayD cs rows accs) :
    Calls Tryz.prog 55 #[.agg #[cv, nv, av]] w fun e w' => ∃ tb, e = .returned (.tuple #[.pointer (some ⟨tb, 0, none⟩), .bool true]) ∧ w.heap.size ≤ tb ∧ TabAt w' tb (clsD cs) nv av ∧ Below w.heap.size w w' := by
  obtain ⟨ac, cc, hcv, _⟩ := h.cls.reads
  obtain ⟨an, cn, hnv, hrows⟩ := h.rows
  obtain ⟨aa, ca, hav, _⟩ := h.accs
  subst hcv hnv hav
  obtain ⟨bc, oc, hac, hbc, hcc⟩ := slice_addr cs h.cls (by rw [hm.len]; decide)
  subst hac
  have HRow : Hid (∀ W, Below w.heap.size w W → ∀ j, j < rows.length → ∃ b off a cap, an = some ⟨b, off, none⟩ ∧ W.cell? ⟨b, off + j, none⟩ = some (.slice a (rows.getD 0 []).length cap) ∧ Ints W (.slice a (rows.getD 0 []).length cap) (rows.getD j [])) := Lib.hid (fun W hW j hj => by
    obtain ⟨b, off, x, e1, h1, h2, h3⟩ := hrows j hj
    have h3' := h3.below hW
    obtain ⟨a, cap, e, _⟩ := h3.reads
    rw [(hm.row j hj).1] at e
    subst e
    exact ⟨b, off, a, cap, e1, (hW.cell (p := ⟨b, off + j, none⟩) h1).trans h2, h3'⟩)
  have HCls : Hid (∀ W, Below w.heap.size w W → Calls Tryz.prog 91 #[.int .i64 ((rows.getD 0 []).length : Int), .slice (some ⟨bc, oc, none⟩) cs.length cc] W fun e w' => e = .returned (.bool true) ∧ w' = W) := Lib.hid (fun W hW => by
    have := below_any (h.cls.below hW) hl.1 (rows.getD 0 []).length
    rwa [hm.cls] at this)
  have HRg : Hid (∀ W, Below w.heap.size w W → W.rangeAt bc oc (clsCells (clsD cs))) := Lib.hid (fun W hW j v hj => by
    have hjl : j < 256 := by
      have := (List.getElem?_eq_some_iff.1 hj).1
      simpa [clsCells] using this
    rw [clsCells_at _ hjl] at hj
    rw [(hW.cell (p := ⟨bc, oc + j, none⟩) hbc).trans (hcc j (by rw [hm.len]; exact hjl)), ← hj]
    have := areL_at hm.cls (k := j) (by rw [hm.len]; exact hjl)
    unfold clsD
    congr 2
    omega)
  have HRB : Hid (∀ j, j < rows.length → (rows.getD j []).length ≤ 1000000 ∧ areL rows.length (rows.getD j []) = true) := Lib.hid (fun j hj => ⟨hl.2.2.2 j hj, (hm.row j hj).2⟩)
  obtain ⟨n, hn⟩ : ∃ n, rows.length = n := ⟨_, rfl⟩
  obtain ⟨k0, hk0⟩ : ∃ k0, (rows.getD 0 []).length = k0 := ⟨_, rfl⟩
  have hn1 := hm.pos
  have hn2 := hm.most
  have ha1 := hm.accs
  have hc1 := hm.len
  rw [hn] at hn1 hn2 ha1 HRow HRB
  rw [hk0] at HRow HCls
  rw [ha1, hc1, hn]
  rw [hc1] at HCls
  have z1 : ¬ ((n : Int) < 1) := by omega
  have z2 : ¬ ((256 : Int) < (n : Int)) := by omega
  have d1 : decide ((n : Int) < 1) = false := decide_eq_false z1
  have d2 : decide ((256 : Int) < (n : Int)) = false := decide_eq_false z2
  have hu := Tryz.underlying79
  have hcl : (clsCells (clsD cs)).length = 256 := by simp [clsCells]
  have hb0 : Below w.heap.size w (w.alloc (.cells #[.slice (some ⟨bc, oc, none⟩) 256 cc, .slice an n cn, .slice aa n ca] 26)) := (Below.refl _ _).alloc (Nat.le_refl _) _
  obtain ⟨b0, o0, a0, p0, e0, x0, _⟩ := HRow.out _ hb0 0 (by omega)
  subst e0
  have hb0' := Lib.hid hb0
  have cB0 : (w.alloc (.cells #[.slice (some ⟨bc, oc, none⟩) 256 cc, .slice (some ⟨b0, o0, none⟩) n cn, .slice aa n ca] 26)).cell? ⟨w.heap.size, 0, none⟩ = some (.slice (some ⟨bc, oc, none⟩) 256 cc) := by rw [World.cell?_alloc_new]; rfl
  have cB1 : (w.alloc (.cells #[.slice (some ⟨bc, oc, none⟩) 256 cc, .slice (some ⟨b0, o0, none⟩) n cn, .slice aa n ca] 26)).cell? ⟨w.heap.size, 1, none⟩ = some (.slice (some ⟨b0, o0, none⟩) n cn) := by rw [World.cell?_alloc_new]; rfl
  have cB2 : (w.alloc (.cells #[.slice (some ⟨bc, oc, none⟩) 256 cc, .slice (some ⟨b0, o0, none⟩) n cn, .slice aa n ca] 26)).cell? ⟨w.heap.size, 2, none⟩ = some (.slice aa n ca) := by rw [World.cell?_alloc_new]; rfl
  rw [Nat.add_zero] at x0
  have hrg := HRg.out _ hb0'.out
  have HN := Lib.hid hn
  clear hrows hcc hl hm h hn hk0 ha1 hc1 hb0 hbc
  go_enter Tryz.func55, Tryz.ntmps55
  go_wp2_with (go_at_call 91; refine (HCls.out _ hb0'.out).mono ?_; rintro e w' ⟨rfl, rfl⟩)
  go_loopg [7, 43] n (fun gk s7 s43 wr => ∃ k : Nat, k + gk = n ∧ s43 = .int .i64 k ∧ wr = (w.alloc (.cells #[.slice (some ⟨bc, oc, none⟩) 256 cc, .slice (some ⟨b0, o0, none⟩) n cn, .slice aa n ca] 26)))
  case atStart => exact ⟨0, by omega, rfl, rfl⟩
  case round =>
    obtain ⟨k, hkg, rfl, rfl⟩ := hrel
    clear x0
    cases gk with
    | zero =>
      have hkz : ¬ ((k : Int) < (n : Int)) := by omega
      obtain ⟨cells, hcells⟩ : ∃ cells, clsCells (clsD cs) = cells := ⟨_, rfl⟩
      have HS : Hid (∀ w', Below (w.alloc (.cells #[.slice (some ⟨bc, oc, none⟩) 256 cc, .slice (some ⟨b0, o0, none⟩) n cn, .slice aa n ca] 26)).heap.size (w.alloc (.cells #[.slice (some ⟨bc, oc, none⟩) 256 cc, .slice (some ⟨b0, o0, none⟩) n cn, .slice aa n ca] 26)) w' → w'.cell? ⟨w.heap.size, 0, none⟩ = some (.slice (some ⟨bc, oc, none⟩) 256 cc) ∧ w'.cell? ⟨w.heap.size, 1, none⟩ = some (.slice (some ⟨b0, o0, none⟩) n cn) ∧ w'.cell? ⟨w.heap.size, 2, none⟩ = some (.slice aa n ca) ∧ w'.rangeAt bc oc cells) := Lib.hid (fun w' hb => by
        have hlt : w.heap.size < (w.alloc (.cells #[.slice (some ⟨bc, oc, none⟩) 256 cc, .slice (some ⟨b0, o0, none⟩) n cn, .slice aa n ca] 26)).heap.size := by simp
        refine ⟨(hb.cell (p := ⟨w.heap.size, 0, none⟩) hlt).trans cB0, (hb.cell (p := ⟨w.heap.size, 1, none⟩) hlt).trans cB1, (hb.cell (p := ⟨w.heap.size, 2, none⟩) hlt).trans cB2, ?_⟩
        rw [← hcells]
        exact HRg.out _ (hb0'.out.trans (hb.mono hb0'.out.size)))
      have HTC : Hid (TabC (Array.foldl (fun cs x => cs.setIfInBounds x.snd x.fst) Tryz.zeroCells81 cells.toArray.zipIdx 0 cells.toArray.size) (clsD cs) (.slice none 0 0) (.slice none 0 0)) := Lib.hid (tab_walk (clsD cs) (by rw [hcells]))
      rw [hcells] at hcl hrg
      have hi : (Tryz.prog.info? 79).map (·.size) = some cells.length := by rw [info_arr, hcl]
      have hone : ∀ v ∈ cells, v.oneCell' = true := by
        rw [← hcells]
        intro v hv
        unfold clsCells at hv
        obtain ⟨j, _, rfl⟩ := List.mem_map.1 hv
        rfl
      have hfz : (Array.foldl (fun cs x => cs.setIfInBounds x.snd x.fst) Tryz.zeroCells81 cells.toArray.zipIdx 0 256).size = 258 := by
        have := HTC.out.size
        rwa [show cells.toArray.size = 256 from by rw [List.size_toArray, hcl]] at this
      have hfe : Array.foldl (fun cs x => cs.setIfInBounds x.snd x.fst) Tryz.zeroCells81 cells.toArray.zipIdx 0 cells.toArray.size = List.foldl (fun cs x => cs.setIfInBounds x.snd x.fst) Tryz.zeroCells81 cells.zipIdx := by simp
      have hfz2 : (List.foldl (fun (cs : Array Value) x => cs.setIfInBounds x.snd x.fst) Tryz.zeroCells81 cells.zipIdx).size = 258 := by
        rw [← hfe]; exact HTC.out.size
      replace hfe := Lib.hid hfe
      have hara : ∀ W, (Instr.arrayAt 79 (.slice (some ⟨bc, oc, none⟩) 256 cc)).run Tryz.prog W = .ok (.pointer (some ⟨bc, oc, none⟩)) W := fun W => by
        simp [Instr.arrayAt, run_underlying Tryz.underlying79]
      clear HRow HCls HRg HRB hcells
      go_wp2_with fail
      go_region_held3 (fun w' => w'.cell? ⟨w.heap.size, 0, none⟩ = some (.slice (some ⟨bc, oc, none⟩) 256 cc) ∧ w'.cell? ⟨w.heap.size, 1, none⟩ = some (.slice (some ⟨b0, o0, none⟩) n cn) ∧ w'.cell? ⟨w.heap.size, 2, none⟩ = some (.slice aa n ca) ∧ w'.rangeAt bc oc cells)
        (first | exact HS.out _ (Below.refl _ _) | exact HS.out _ (Below.refl _ _).drew | exact HS.out _ ((Below.refl _ _).drew.alloc (Nat.le_refl _) _) | exact HS.out _ ((Below.refl _ _).alloc (Nat.le_refl _) _).drew) (fail)
      all_goals
        go_wp2
        go_ret2
        refine ⟨w.heap.size + 1, rfl, by omega, ⟨_, ?_, (hfe.out ▸ HTC.out).parts _ _⟩, ((hb0'.out.alloc (by simp) _).drew)⟩
        have := World.alloc_heap_new (w.alloc (.cells #[.slice (some ⟨bc, oc, none⟩) 256 cc, .slice (some ⟨b0, o0, none⟩) n cn, .slice aa n ca] 26)) (Obj.cells (((List.foldl (fun (cs : Array Value) x => cs.setIfInBounds x.snd x.fst) Tryz.zeroCells81 cells.zipIdx).setIfInBounds 256 (Value.slice (some ⟨b0, o0, none⟩) n cn)).setIfInBounds 257 (Value.slice aa n ca)) 81)
        rw [World.size_alloc] at this
        exact this
    | succ g' =>
      have hkz : (k : Int) < (n : Int) := by omega
      have hkn : k < n := by omega
      obtain ⟨b1, o1, a1, p1, e1, x1, i1⟩ := HRow.out _ hb0'.out k hkn
      have e2 : b0 = b1 := by injection e1 with e1; injection e1
      have e3 : o0 = o1 := by injection e1 with e1; injection e1
      subst e2 e3
      have CB : Hid (Calls Tryz.prog 91 #[.int .i64 (n : Int), .slice a1 k0 p1] (w.alloc (.cells #[.slice (some ⟨bc, oc, none⟩) 256 cc, .slice (some ⟨b0, o0, none⟩) n cn, .slice aa n ca] 26)) fun e w' => e = .returned (.bool true) ∧ w' = (w.alloc (.cells #[.slice (some ⟨bc, oc, none⟩) 256 cc, .slice (some ⟨b0, o0, none⟩) n cn, .slice aa n ca] 26))) := Lib.hid (by
        obtain ⟨h1, h2⟩ := HRB.out k hkn
        have := below_any i1 h1 n
        rwa [h2] at this)
      clear i1 e1
      go_wp2_with (go_at_call 91; refine CB.out.mono ?_; rintro e w' ⟨rfl, rfl⟩)
      go_roundg g'
      case measure => omega
      case rel => exact ⟨k + 1, by omega, iv (by omega), rfl⟩

/-! A run along a table -/
theorem runN_lt {cs : List Int} {rows : List (List Int)} {accs : List Bool} (hm : MayD cs rows accs) : ∀ (t : List UInt8) (s : Nat), s < rows.length → runN rows (fun c => clsD cs c.toNat) t s < rows.length
  | [], _, h => h
  | c :: t, s, h => by
    show runN rows (fun c => clsD cs c.toNat) t (stepN rows s (clsD cs c.toNat)) < rows.length
    apply runN_lt hm t
    obtain ⟨h1, h2⟩ := hm.row s h
    have hc := areL_at hm.cls (k := c.toNat) (by rw [hm.len]; exact c.toNat_lt)
    have := areL_at h2 (k := clsD cs c.toNat) (by rw [h1]; unfold clsD; omega)
    unfold stepN
    omega

set_option maxRecDepth 100000 in
set_option maxHeartbeats 4000000 in
theorem match_any {w : World} {tb : Nat} {nv av : Value} {cs : List Int} {rows : List (List Int)} {accs : List Bool} (ht : TabAt w tb (clsD cs) nv av) (hr : RowsR w nv rows) (ha : BoolsR w av accs) (hm : MayD cs rows accs) (s : ByteArray) (hs : s.size ≤ 1000000) :
    Calls Tryz.prog 57 #[.pointer (some ⟨tb, 0, none⟩), .string s] w fun e w' => e = .returned (.bool (accs.getD (runN rows (fun c => clsD cs c.toNat) s.data.toList 0) false)) ∧ Below w.heap.size w w' := by
  obtain ⟨an, cn, hnv, hrows⟩ := hr
  obtain ⟨aa, ca, hav, haccs⟩ := ha
  subst hnv hav
  have htl := ht.lt
  have HT : Hid (∀ W, Below w.heap.size w W → TabAt W tb (clsD cs) (.slice an rows.length cn) (.slice aa accs.length ca)) := Lib.hid (fun W hW => ht.same (hW.block tb htl))
  have HRow : Hid (∀ W, Below w.heap.size w W → ∀ j, j < rows.length → ∃ b off a cap, an = some ⟨b, off, none⟩ ∧ W.cell? ⟨b, off + j, none⟩ = some (.slice a (rows.getD 0 []).length cap) ∧ ∀ k, k < (rows.getD 0 []).length → ∃ b2 off2, a = some ⟨b2, off2, none⟩ ∧ W.cell? ⟨b2, off2 + k, none⟩ = some (.int .i64 ((stepN rows j k : Nat) : Int)) ∧ stepN rows j k < rows.length) := Lib.hid (fun W hW j hj => by
    obtain ⟨b, off, x, e1, h1, h2, h3⟩ := hrows j hj
    have h3' := h3.below hW
    obtain ⟨a, cap, e, hc⟩ := h3'.reads
    have hlen := (hm.row j hj).1
    rw [hlen] at e
    subst e
    refine ⟨b, off, a, cap, e1, (hW.cell (p := ⟨b, off + j, none⟩) h1).trans h2, fun k hk => ?_⟩
    obtain ⟨b2, off2, e2, hcell⟩ := hc.out W (Below.refl _ _) k (by omega)
    have hb := areL_at (hm.row j hj).2 (k := k) (by omega)
    refine ⟨b2, off2, e2, ?_, by unfold stepN; omega⟩
    rw [hcell]
    unfold stepN
    congr 2
    omega)
  have HAcc : Hid (∀ W, Below w.heap.size w W → ∀ j, j < accs.length → ∃ b off, aa = some ⟨b, off, none⟩ ∧ W.cell? ⟨b, off + j, none⟩ = some (.bool (accs.getD j false))) := Lib.hid (fun W hW j hj => by
    obtain ⟨b, off, e1, h1, h2⟩ := haccs j hj
    exact ⟨b, off, e1, (hW.cell (p := ⟨b, off + j, none⟩) h1).trans h2⟩)
  have HC : Hid (∀ c : UInt8, clsD cs c.toNat < (rows.getD 0 []).length) := Lib.hid (fun c => by
    have := areL_at hm.cls (k := c.toNat) (by rw [hm.len]; exact c.toNat_lt)
    unfold clsD; omega)
  have HL : Hid (∀ (t : List UInt8), runN rows (fun c => clsD cs c.toNat) t 0 < rows.length) := Lib.hid (fun t => runN_lt hm t 0 hm.pos)
  have HSN : Hid (∀ (t : List UInt8) (c : UInt8), runN rows (fun c => clsD cs c.toNat) (t ++ [c]) 0 = stepN rows (runN rows (fun c => clsD cs c.toNat) t 0) (clsD cs c.toNat)) := Lib.hid (fun t c => by simp [runN])
  have hna := hm.accs
  rw [hna] at HT HAcc
  obtain ⟨n, hn⟩ : ∃ n, rows.length = n := ⟨_, rfl⟩
  obtain ⟨k0, hk0⟩ : ∃ k0, (rows.getD 0 []).length = k0 := ⟨_, rfl⟩
  have hn2 := hm.most
  rw [hn] at HT HRow HAcc HL hn2
  rw [hk0] at HRow HC
  obtain ⟨rN, hrN⟩ : ∃ rN : List UInt8 → Nat, (fun t => runN rows (fun c => clsD cs c.toNat) t 0) = rN := ⟨_, rfl⟩
  have er : ∀ t, runN rows (fun c => clsD cs c.toNat) t 0 = rN t := fun t => by rw [← hrN]
  obtain ⟨sN, hsN⟩ : ∃ sN : Nat → Nat → Nat, stepN rows = sN := ⟨_, rfl⟩
  simp only [er, hsN] at HL HSN
  rw [er]
  rw [hsN] at HRow
  have HR0 : Hid (rN [] = 0) := Lib.hid (by rw [← er]; rfl)
  have HB0 := Lib.hid (Below.refl w.heap.size w)
  obtain ⟨R, hR⟩ : ∃ R, accs.getD (rN s.data.toList) false = R := ⟨_, rfl⟩
  rw [hR]
  have HR := Lib.hid hR
  clear hR
  clear hrows haccs hm hna hn hk0 hrN er hsN ht htl
  go_enter Tryz.func57, Tryz.ntmps57
  go_wp2
  go_loopg [5, 6, 9] s.size (fun gk s5 s6 s9 wr => ∃ k : Nat, k + gk = s.size ∧ s9 = .int .i64 k ∧ s5 = .int .i64 ((rN (s.data.toList.take k) : Nat) : Int) ∧ Hid (Below w.heap.size w wr))
  case atStart => exact ⟨0, by omega, rfl, by rw [List.take_zero, HR0.out]; rfl, HB0⟩
  case round =>
    obtain ⟨k, hkg, rfl, rfl, HB⟩ := hrel
    have HSL := Lib.hid (HL.out (s.data.toList.take k))
    cases gk with
    | zero =>
      have hkz : ¬ ((k : Int) < (s.size : Int)) := by omega
      have HE : Hid (s.data.toList.take k = s.data.toList) := Lib.hid (List.take_of_length_le (by rw [← Lib.size_eq]; omega))
      have ct := (HT.out wr HB.out).c2
      have hsl := HSL.out
      rw [HE.out] at hsl
      rw [HE.out]
      obtain ⟨b, off, e1, h1⟩ := HAcc.out wr HB.out _ hsl
      rw [HR.out] at h1
      obtain ⟨q, hq⟩ : ∃ q, rN s.data.toList = q := ⟨_, rfl⟩
      rw [hq] at hsl h1
      rw [hq]
      have hqz : (q : Int) < (n : Int) := by omega
      subst e1
      clear hq HSL
      go_wp2
      go_ret
      exact ⟨rfl, HB.out⟩
    | succ g' =>
      have hkz : (k : Int) < (s.size : Int) := by omega
      have hlt : k < s.size := by omega
      have ct := (HT.out wr HB.out).c1
      obtain ⟨c, hc⟩ : ∃ c : UInt8, s[k]'hlt = c := ⟨_, rfl⟩
      have HTK : Hid (s.data.toList.take (k + 1) = s.data.toList.take k ++ [c]) := Lib.hid (by
        rw [List.take_add_one, List.getElem?_eq_getElem (by rw [← Lib.size_eq]; exact hlt), ← hc]; rfl)
      have cc := (HT.out wr HB.out).cls (i := c.toNat) c.toNat_lt
      have hcz : (c.toNat : Int) < 256 := by have := c.toNat_lt; omega
      have hcl := HC.out c
      obtain ⟨d, hd⟩ : ∃ d, clsD cs c.toNat = d := ⟨_, rfl⟩
      rw [hd] at cc hcl
      have hsl := HSL.out
      have HSS : Hid (rN (s.data.toList.take (k + 1)) = sN (rN (s.data.toList.take k)) d) := Lib.hid (by rw [HTK.out, HSN.out, hd])
      obtain ⟨q, hq⟩ : ∃ q, rN (s.data.toList.take k) = q := ⟨_, rfl⟩
      rw [hq] at hsl HSS
      rw [hq]
      obtain ⟨b, off, a, cap, e1, h1, h2⟩ := HRow.out wr HB.out q hsl
      subst e1
      obtain ⟨b2, off2, e2, h3, h4⟩ := h2 d hcl
      subst e2
      have hqz : (q : Int) < (n : Int) := by omega
      have hdz : (d : Int) < (k0 : Int) := by omega
      clear h2 hd hq HSL
      go_wp2_with fail
      go_quiet (fail)
      go_wp2
      go_roundg g'
      case measure => omega
      case rel => exact ⟨k + 1, by omega, iv (by omega), by rw [HSS.out], Lib.hid (below_drewN HB.out _)⟩
end Go.Proofs.YtnpgmekgmelamaaGreat
