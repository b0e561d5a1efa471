/-
  What is proved: outlawlaw10.IndexMost returns true at any two numbers of states, acts and string. No conditions. (The walk; the frame lies in XIxLawMS.)
-/
import Derived.Test.YtnpgmekgmelamaaGreatIxLawD
import Derived.Test.YtnpgmekgmelamaaGreatGlMatch
import Derived.Deep.RegionHeld3
import Derived.BigQuiet
namespace Go.Proofs.YtnpgmekgmelamaaGreat
open Go.RowKit Go.Shelf Go.Maps

theorem gmat_any (p t : ByteArray) (f : Bool) (w : World) (hp : p.size ≤ 1000000) (ht : t.size ≤ 1000000) :
    Calls Tryz.prog 24 #[.string p, .string t, .bool f] w fun e w' => e = .returned (.bool (mt f p.data.toList t.data.toList)) ∧ Below w.heap.size w w' := by
  have h : Calls Tryz.prog 24 #[.string p, .string t, .bool f] w fun e w' => e = .returned (.bool (mt f p.data.toList t.data.toList)) ∧ Drew w w' := by
    cases f with
    | true => exact match_core p t true 92 w hp ht (fun w => equality_any true w) eq_enters1 same_fold
    | false => exact match_core p t false 94 w hp ht (fun w => equality_any false w) eq_enters2 same_plain
  exact h.mono fun _ _ h => ⟨h.1, h.2.below⟩

/-- Two indexes side by side, with the same globs. -/
structure Two (W : World) (x y : Nat) (L M : List G) (N b1 b2 : Nat) (c1 c2 : Nat → Col) : Prop where
  one : Idx W x L N b1 c1
  two : Idx W y M N b2 c2
  apart : ∀ k, c1 k ≠ .free → c2 k = .free
/-- Behind the first one's act. -/
structure Two1 (W : World) (x y : Nat) (L M : List G) (N b1 b2 : Nat) (c1 c2 : Nat → Col) : Prop where
  one : Idx W x L (N + 1) b1 c1
  two : Idx W y M N b2 c2
  apart : ∀ k, c1 k ≠ .free → c2 k = .free
theorem Idx.pats {W : World} {x : Nat} {L : List G} {N base : Nat} {col : Nat → Col} (H : Idx W x L N base col) : ∀ g, g ∈ L → g.p.size ≤ 1000000 := by
  obtain ⟨most, bg, bl, bo, cl, co, Fl, ao, H⟩ := H
  exact fun g hg => by have := (check_pos (H.chk g hg)).2; omega
theorem Two.below {W W' : World} {x y : Nat} {L M : List G} {N b1 b2 : Nat} {c1 c2 : Nat → Col} (h : Two W x y L M N b1 b2 c1 c2) (hb : Below W.heap.size W W') : Two W' x y L M N b1 b2 c1 c2 := ⟨h.one.below hb, h.two.below hb, h.apart⟩
theorem Two.step1 {W W' : World} {x y : Nat} {L M : List G} {N b1 b2 : Nat} {c1 c2 c1' : Nat → Col} (h : Two W x y L M N b1 b2 c1 c2) (hs : Step c1 W c1' W') : Idx W' y M N b2 c2 ∧ ∀ k, c1' k ≠ .free → c2 k = .free := by
  refine ⟨h.two.same hs.os.size (fun k hk hc => hs.keep k hk ?_), fun k hk => ?_⟩
  · by_cases e : c1 k = .free
    · exact e
    · exact absurd (h.apart k e) hc
  · by_cases hk2 : k < W.heap.size
    · exact h.apart k (by rw [← hs.old k hk2]; exact hk)
    · exact h.two.free (.inr (by omega))
theorem two_step2 {W W' : World} {x : Nat} {L : List G} {N b1 : Nat} {c1 c2 c2' : Nat → Col} (h1 : Idx W x L N b1 c1) (ha : ∀ k, c1 k ≠ .free → c2 k = .free) (hs : Step c2 W c2' W') : Idx W' x L N b1 c1 ∧ ∀ k, c1 k ≠ .free → c2' k = .free := by
  refine ⟨h1.same hs.os.size (fun k hk hc => hs.keep k hk (ha k hc)), fun k hk => ?_⟩
  by_cases hk2 : k < W.heap.size
  · rw [hs.old k hk2]; exact ha k hk
  · exact absurd (h1.free (.inr (by omega))) hk

set_option maxRecDepth 100000 in
set_option maxHeartbeats 8000000 in
theorem imostLaw_any (a b : Int) {w : World} {v : Value} {l : List ActA} (hL : ActsL w v l) (t : ByteArray) :
    Calls Tryz.prog 6 #[.int .i64 a, .int .i64 b, v, .string t] w fun e w' => e = .returned (.bool true) ∧ Below w.heap.size w w' := by
  obtain ⟨hA, hok, hmax⟩ := hL
  have C0 := Lib.hid (fun w => ilives_any w)
  have CL : Hid (∀ W, Below w.heap.size w W → Calls Tryz.prog 27 #[v] W fun e w' => e = .returned (.bool (lightL l)) ∧ w' = W) := Lib.hid (fun W hW => light_any (hA.below hW) (by unfold maxLen at hmax; omega))
  by_cases hl : lightL l = true
  · rw [hl] at CL
    by_cases ht : t.size ≤ 100
    · have htz : ¬ (100 : Int) < (t.size : Int) := by omega
      obtain ⟨h60, hsz⟩ := lightL_all hl
      have CN := Lib.hid (fun n w => inew_any n w)
      have HSZ := Lib.hid hsz
      have HOK := Lib.hid hok
      have HPT : Hid (t.size ≤ 1000000) := Lib.hid (by omega)
      obtain ⟨va, vc, rfl⟩ : ∃ va vc, v = .slice va l.length vc := by
        obtain ⟨a, cap, e, _⟩ := hA
        exact ⟨a, cap, e⟩
      have HCELL := Lib.hid hA.cells.2
      clear hA hok hmax hl ht hsz
      go_enter Tryz.func6, Tryz.ntmps6
      go_wp2_with fail
      refine (C0.out _).mono ?_
      rintro e w0 ⟨rfl, hb0⟩
      go_wp2_with fail
      refine (CL.out _ hb0).mono ?_
      rintro e w0' ⟨rfl, rfl⟩
      go_wp2_with fail
      refine (CN.out _ _).mono ?_
      rintro e w1 ⟨x, col1, rfl, hI1, hb1⟩
      go_wp2_with fail
      refine (CN.out _ _).mono ?_
      rintro e w2 ⟨y, col2, rfl, hI2, hb2⟩
      have HB0 := Lib.hid hb0
      have HB2 : Hid (Below w0'.heap.size w0' w2) := Lib.hid (hb1.trans (hb2.mono hb1.size))
      have HT2 : Hid (Two w2 x y [] [] 0 w0'.heap.size w1.heap.size col1 col2) := Lib.hid ⟨hI1.below hb2, hI2, fun k hk => by
        by_cases e : k < w1.heap.size
        · exact hI2.free (.inl e)
        · exact absurd (hI1.free (.inr (by omega))) hk⟩
      have HB12 : Hid (w0'.heap.size ≤ w1.heap.size) := Lib.hid hb1.size
      clear hb0 hI1 hb1 hI2 hb2 C0 CL CN
      go_wp2_with fail
      go_loopg [11] l.length (fun gk s11 wr => ∃ j : Nat, j + gk = l.length ∧ s11 = .int .i64 j ∧ Hid (∃ L c1 c2, Two wr x y L L j w0'.heap.size w1.heap.size c1 c2) ∧ Hid (Below w0'.heap.size w0' wr))
      case atStart => exact ⟨0, by omega, rfl, Lib.hid ⟨[], col1, col2, HT2.out⟩, HB2⟩
      case round =>
        clear HT2 HB2
        obtain ⟨j, hjg, rfl, HI, HB⟩ := hrel
        obtain ⟨L, d1, d2, hT⟩ := HI.out
        clear HI
        by_cases hj : j < l.length
        · have hjz : (j : Int) < (l.length : Int) := by omega
          obtain ⟨bb, off, ea, hc⟩ := HCELL.out j hj
          have HCJ : Hid (∀ W, Below w0'.heap.size w0' W → W.cell? ⟨bb, off + j * 5, none⟩ = some (.int .i64 l[j].kind) ∧ W.cell? ⟨bb, off + j * 5 + 1, none⟩ = some (.int .i64 l[j].id) ∧ W.cell? ⟨bb, off + j * 5 + 2, none⟩ = some (.string l[j].p) ∧ W.cell? ⟨bb, off + j * 5 + 3, none⟩ = some (.bool l[j].f) ∧ W.cell? ⟨bb, off + j * 5 + 4, none⟩ = some (.string l[j].t)) := Lib.hid (fun W hW => hc W (HB0.out.trans (hW.mono HB0.out.size)))
          have hpj : l[j].p.size ≤ 1000000 := by have := (HSZ.out j _ (List.getElem?_eq_getElem hj)).1; omega
          have hoj := HOK.out j _ (List.getElem?_eq_getElem hj)
          have hTd := hT.below (Below.refl _ wr).drew
          have hbd : Below w0'.heap.size w0' wr.drew := HB.out.drew
          have CX : Hid (Calls Tryz.prog 32 #[.pointer (some ⟨x, 0, none⟩), actV l[j]] wr.drew fun e w' => e = .returned (.int .i64 (doE L l[j])) ∧ ∃ c1, Two1 w' x y (doL L l[j]) L j w0'.heap.size w1.heap.size c1 d2 ∧ Below w0'.heap.size w0' w') := Lib.hid (by
            refine (do_any hTd.one l[j] hoj hpj (by omega)).mono ?_
            rintro e w' ⟨rfl, c1, hI, hS⟩
            have h2 := hTd.step1 hS
            exact ⟨rfl, c1, ⟨hI, h2.1, h2.2⟩, hbd.trans (hS.from hbd.size (fun k hk => hTd.one.free (.inl hk)))⟩)
          have CY : Hid (∀ W c1, Two1 W x y (doL L l[j]) L j w0'.heap.size w1.heap.size c1 d2 → Below w0'.heap.size w0' W → Calls Tryz.prog 32 #[.pointer (some ⟨y, 0, none⟩), actV l[j]] W fun e w' => e = .returned (.int .i64 (doE L l[j])) ∧ Hid (∃ c1 c2, Two w' x y (doL L l[j]) (doL L l[j]) (j + 1) w0'.heap.size w1.heap.size c1 c2) ∧ Below w0'.heap.size w0' w') := Lib.hid (fun W c1 hT hb => by
            refine (do_any hT.two l[j] hoj hpj (by omega)).mono ?_
            rintro e w' ⟨rfl, c2, hI, hS⟩
            have h2 := two_step2 hT.one hT.apart hS
            exact ⟨rfl, Lib.hid ⟨c1, c2, h2.1, hI, h2.2⟩, hb.trans (hS.from hb.size (fun k hk => hT.two.free (.inl (by have := HB12.out; omega))))⟩)
          obtain ⟨⟨k, i, q, g, u⟩, hx⟩ : ∃ y, l[j] = y := ⟨_, rfl⟩
          rw [hx] at HCJ CX CY
          unfold actV at CX CY
          dsimp only at HCJ CX CY
          obtain ⟨ee, hee⟩ : ∃ ee, doE L ⟨k, i, q, g, u⟩ = ee := ⟨_, rfl⟩
          rw [hee] at CX CY
          subst ea
          clear hx hc hT hee hTd hpj hoj
          go_wp2
          refine wp_region_held_drew (S := (fun w' => w'.cell? ⟨bb, off + j * 5, none⟩ = some (.int .i64 k) ∧ w'.cell? ⟨bb, off + j * 5 + 1, none⟩ = some (.int .i64 i) ∧ w'.cell? ⟨bb, off + j * 5 + 2, none⟩ = some (.string q) ∧ w'.cell? ⟨bb, off + j * 5 + 3, none⟩ = some (.bool g) ∧ w'.cell? ⟨bb, off + j * 5 + 4, none⟩ = some (.string u))) (by kernel_rfl) ?_ (fun hHeld => ?_)
          · exact HCJ.out _ HB.out.drew
          refine wpAnyH_take (i := 0) (oi := { dst := some 35, op := Op.move (Operand.tmp 9), type := 49, pos := "law.go:88", after := #[], guard := none }) (v := ?va0) rfl (by kernel_rfl) (by kernel_rfl) (by kernel_rfl) (fun _ _ _ h => h) (Or.inl ⟨by rfl, ?ha0⟩) (by assumption) ?ra0
          case ha0 => (intro w hSw; (try dsimp only at hSw); go_simp; try with_reducible rfl)
          try simp only [Act.put, List.setIfInBounds_toArray, List.set_cons_zero, List.set_cons_succ]
          refine wpAnyH_take (i := 1) (oi := { dst := some 36, op := Op.move (Operand.tmp 2), type := 47, pos := "law.go:88", after := #[], guard := none }) (v := ?va1) rfl (by kernel_rfl) (by kernel_rfl) (by kernel_rfl) (fun _ _ _ h => h) (Or.inl ⟨by rfl, ?ha1⟩) (by assumption) ?ra1
          case ha1 => (intro w hSw; (try dsimp only at hSw); go_simp; try with_reducible rfl)
          try simp only [Act.put, List.setIfInBounds_toArray, List.set_cons_zero, List.set_cons_succ]
          refine wpAnyH_take (i := 2) (oi := { dst := some 37, op := Op.move (Operand.tmp 11), type := 3, pos := "law.go:88", after := #[], guard := none }) (v := ?va2) rfl (by kernel_rfl) (by kernel_rfl) (by kernel_rfl) (fun _ _ _ h => h) (Or.inl ⟨by rfl, ?ha2⟩) (by assumption) ?ra2
          case ha2 => (intro w hSw; (try dsimp only at hSw); go_simp; try with_reducible rfl)
          try simp only [Act.put, List.setIfInBounds_toArray, List.set_cons_zero, List.set_cons_succ]
          refine wpAnyH_take (i := 3) (oi := { dst := some 38, op := Op.indexAddr 47 (Operand.tmp 36) (Operand.tmp 37), type := 0, pos := "law.go:88", after := #[{ on := 1, ground := Ground.data }, { on := 2, ground := Ground.data }], guard := none }) (v := ?va3) rfl (by kernel_rfl) (by kernel_rfl) (by kernel_rfl) (fun _ _ _ h => h) (Or.inl ⟨by rfl, ?ha3⟩) (by assumption) ?ra3
          case ha3 => (intro w hSw; (try dsimp only at hSw); go_simp; try with_reducible rfl)
          try simp only [Act.put, List.setIfInBounds_toArray, List.set_cons_zero, List.set_cons_succ]
          refine wpAnyH_take (i := 4) (oi := { dst := some 39, op := Op.load 54 (Operand.tmp 38), type := 54, pos := "law.go:88", after := #[{ on := 3, ground := Ground.data }], guard := none }) (v := ?va4) rfl (by kernel_rfl) (by kernel_rfl) (by kernel_rfl) (fun _ _ _ h => h) (Or.inl ⟨by rfl, ?ha4⟩) (by assumption) ?ra4
          case ha4 => (intro w hSw; (try dsimp only at hSw); go_simp; try with_reducible rfl)
          try simp only [Act.put, List.setIfInBounds_toArray, List.set_cons_zero, List.set_cons_succ]
          refine wpAnyH_take (i := 6) (oi := { dst := some 41, op := Op.move (Operand.tmp 10), type := 49, pos := "law.go:88", after := #[], guard := none }) (v := ?va6) rfl (by kernel_rfl) (by kernel_rfl) (by kernel_rfl) (fun _ _ _ h => h) (Or.inl ⟨by rfl, ?ha6⟩) (by assumption) ?ra6
          case ha6 => (intro w hSw; (try dsimp only at hSw); go_simp; try with_reducible rfl)
          try simp only [Act.put, List.setIfInBounds_toArray, List.set_cons_zero, List.set_cons_succ]
          refine wpAnyH_take (i := 7) (oi := { dst := some 42, op := Op.move (Operand.tmp 2), type := 47, pos := "law.go:88", after := #[], guard := none }) (v := ?va7) rfl (by kernel_rfl) (by kernel_rfl) (by kernel_rfl) (fun _ _ _ h => h) (Or.inl ⟨by rfl, ?ha7⟩) (by assumption) ?ra7
          case ha7 => (intro w hSw; (try dsimp only at hSw); go_simp; try with_reducible rfl)
          try simp only [Act.put, List.setIfInBounds_toArray, List.set_cons_zero, List.set_cons_succ]
          refine wpAnyH_take (i := 8) (oi := { dst := some 43, op := Op.move (Operand.tmp 11), type := 3, pos := "law.go:88", after := #[], guard := none }) (v := ?va8) rfl (by kernel_rfl) (by kernel_rfl) (by kernel_rfl) (fun _ _ _ h => h) (Or.inl ⟨by rfl, ?ha8⟩) (by assumption) ?ra8
          case ha8 => (intro w hSw; (try dsimp only at hSw); go_simp; try with_reducible rfl)
          try simp only [Act.put, List.setIfInBounds_toArray, List.set_cons_zero, List.set_cons_succ]
          refine wpAnyH_take (i := 9) (oi := { dst := some 44, op := Op.indexAddr 47 (Operand.tmp 42) (Operand.tmp 43), type := 0, pos := "law.go:88", after := #[{ on := 7, ground := Ground.data }, { on := 8, ground := Ground.data }], guard := none }) (v := ?va9) rfl (by kernel_rfl) (by kernel_rfl) (by kernel_rfl) (fun _ _ _ h => h) (Or.inl ⟨by rfl, ?ha9⟩) (by assumption) ?ra9
          case ha9 => (intro w hSw; (try dsimp only at hSw); go_simp; try with_reducible rfl)
          try simp only [Act.put, List.setIfInBounds_toArray, List.set_cons_zero, List.set_cons_succ]
          refine wpAnyH_take (i := 10) (oi := { dst := some 45, op := Op.load 54 (Operand.tmp 44), type := 54, pos := "law.go:88", after := #[{ on := 9, ground := Ground.data }], guard := none }) (v := ?va10) rfl (by kernel_rfl) (by kernel_rfl) (by kernel_rfl) (fun _ _ _ h => h) (Or.inl ⟨by rfl, ?ha10⟩) (by assumption) ?ra10
          case ha10 => (intro w hSw; (try dsimp only at hSw); go_simp; try with_reducible rfl)
          try simp only [Act.put, List.setIfInBounds_toArray, List.set_cons_zero, List.set_cons_succ]
          refine wpAnyH_ready (rs := [5]) (by kernel_rfl) (by simp) ?_
          refine AllReadyH.cons (o := { dst := some 40, op := Op.call { callee := Callee.value (Operand.func 32), args := #[Operand.tmp 35, Operand.tmp 39], argTypes := #[49, 54] }, type := 33, pos := "law.go:88", after := #[{ on := 0, ground := Ground.data }, { on := 4, ground := Ground.data }], guard := none }) rfl (fun K hK => ?_) AllReadyH.nil
          go_simp
          go_at_call 32; refine CX.out.mono ?_; rintro e w6 ⟨rfl, c6, hT6, hJ6⟩
          refine hK.out _ _ ?_ (fun hHeld => ?_)
          · exact HCJ.out _ hJ6
          clear hK K
          try simp only [Act.put, List.setIfInBounds_toArray, List.set_cons_zero, List.set_cons_succ]
          refine wpAnyH_ready (rs := [11]) (by kernel_rfl) (by simp) ?_
          refine AllReadyH.cons (o := { dst := some 46, op := Op.call { callee := Callee.value (Operand.func 32), args := #[Operand.tmp 41, Operand.tmp 45], argTypes := #[49, 54] }, type := 33, pos := "law.go:88", after := #[{ on := 6, ground := Ground.data }, { on := 10, ground := Ground.data }, { on := 5, ground := Ground.chain }], guard := none }) rfl (fun K hK => ?_) AllReadyH.nil
          go_simp
          go_at_call 32; refine (CY.out _ _ hT6 hJ6).mono ?_; rintro e w7 ⟨rfl, HT7, hJ7⟩
          refine hK.out _ _ ?_ (fun hHeld => ?_)
          · exact HCJ.out _ hJ7
          clear hK K
          try simp only [Act.put, List.setIfInBounds_toArray, List.set_cons_zero, List.set_cons_succ]
          refine wpAnyH_take (i := 12) (oi := { dst := some 47, op := Op.binOp BinOp.neq 33 (Operand.tmp 40) (Operand.tmp 46) 33, type := 4, pos := "law.go:88", after := #[{ on := 5, ground := Ground.data }, { on := 11, ground := Ground.data }], guard := none }) (v := ?va12) rfl (by kernel_rfl) (by kernel_rfl) (by kernel_rfl) (fun _ _ _ h => h) (Or.inl ⟨by rfl, ?ha12⟩) (by assumption) ?ra12
          case ha12 => (intro w hSw; (try dsimp only at hSw); go_simp; try with_reducible rfl)
          try simp only [Act.put, List.setIfInBounds_toArray, List.set_cons_zero, List.set_cons_succ]
          refine wpAnyH_done (by kernel_rfl) ?_ _
          go_wp2
          go_roundg (l.length - (j + 1))
          case measure => omega
          case rel =>
            obtain ⟨c1, c2, hT7⟩ := HT7.out
            exact ⟨j + 1, by omega, by go_num, Lib.hid ⟨_, c1, c2, hT7⟩, Lib.hid hJ7⟩
        · have hjz : ¬ (j : Int) < (l.length : Int) := by omega
          have hj60 : j ≤ 60 := by omega
          have HT := Lib.hid hT
          have C1 := Lib.hid (iglobs_any hT.one)
          clear hT HCELL HSZ HOK
          go_wp2_with fail
          refine C1.out.mono ?_
          rintro e w3 ⟨v1, rfl, ho1, hb3⟩
          have HT3 := Lib.hid (HT.out.below hb3)
          have HB3 := Lib.hid (HB.out.trans (hb3.mono HB.out.size))
          have HGR := Lib.hid ho1.reads
          have hlen : L.length ≤ 200 := HT.out.one.len
          have HSR := Lib.hid HT.out.one.srt
          obtain ⟨ga, gc, hv1, hgc⟩ := ho1.reads
          subst hv1
          have HG : Hid (∃ gb go, (0 < L.length → ga = some ⟨gb, go, none⟩) ∧ ∀ W, Below w3.heap.size w3 W → ∀ k (hk : k < L.length), W.cell? ⟨gb, go + k * 3, none⟩ = some (.int .i64 L[k].id) ∧ W.cell? ⟨gb, go + k * 3 + 1, none⟩ = some (.string L[k].p) ∧ W.cell? ⟨gb, go + k * 3 + 2, none⟩ = some (.bool L[k].f)) := Lib.hid (by
            by_cases h0 : 0 < L.length
            · obtain ⟨gb, go, e1, _⟩ := hgc 0 L[0] (List.getElem?_eq_getElem h0)
              refine ⟨gb, go, fun _ => e1, fun W hW k hk => ?_⟩
              obtain ⟨gb', go', e2, hlt, hc⟩ := hgc k L[k] (List.getElem?_eq_getElem hk)
              rw [e1] at e2
              injection e2 with e2
              injection e2 with e2 e3
              subst e2 e3
              have hc' : ∀ i, i < 3 → W.cell? ⟨gb, go + k * 3 + i, none⟩ = (gCells L[k])[i]? := fun i hi => by rw [World.cell?_of_block (w := w3) (hW.block gb hlt)]; exact hc i hi
              exact ⟨hc' 0 (by decide), hc' 1 (by decide), hc' 2 (by decide)⟩
            · exact ⟨0, 0, fun h => absurd h h0, fun W hW k hk => absurd hk (by omega)⟩)
          obtain ⟨gb, go, hga, HGC⟩ := HG.out
          replace HGC := Lib.hid HGC
          have HPL : Hid (∀ k (hk : k < L.length), L[k].p.size ≤ 1000000) := Lib.hid (fun k hk => HT.out.one.pats _ (List.getElem_mem hk))
          clear ho1 hb3 C1 HT HG hgc HB
          go_wp2_with fail
          go_loopg [14, 13] L.length (fun gk s14 s13 wr => ∃ k : Nat, k + gk = L.length ∧ s14 = .int .i64 k ∧ Hid (OwnI wr w3.heap.size s13 (((L.take k).filter (mG t.data.toList)).map (·.id))) ∧ Hid (Below w3.heap.size w3 wr))
          case atStart => exact ⟨0, by omega, rfl, Lib.hid (World.ownsRow_nil _ _ _ _), Lib.hid (Below.refl _ _)⟩
          case round =>
            obtain ⟨k, hkg, rfl, HO, HJ⟩ := hrel
            by_cases hk : k < L.length
            · have hkz : (k : Int) < (L.length : Int) := by omega
              have hga' := hga (by omega)
              subst hga'
              have HTK : Hid (∀ m, mG t.data.toList L[k] = m → (((L.take (k + 1)).filter (mG t.data.toList)).map (·.id)) = (((L.take k).filter (mG t.data.toList)).map (·.id)) ++ if m then [L[k].id] else []) := Lib.hid (fun m hm => by
                rw [List.take_add_one, List.getElem?_eq_getElem hk, List.filter_append, List.map_append, ← hm]
                cases h : mG t.data.toList L[k] <;> simp [h])
              have HOD : Hid (∀ n, OwnI (wr.drewN n) w3.heap.size u13 (((L.take k).filter (mG t.data.toList)).map (·.id)) ∧ Below w3.heap.size w3 (wr.drewN n)) := Lib.hid (fun n => ⟨HO.out.later (below_drewN (Below.refl _ _) n), below_drewN HJ.out n⟩)
              go_upto_region 16 with fail
              go_cut [71] from 56 to 71 (fun s71 wc => s71 = .bool false ∧ Hid (OwnI wc w3.heap.size u13 (((L.take k).filter (mG t.data.toList)).map (·.id))) ∧ Hid (Below w3.heap.size w3 wc))
              case first =>
                by_cases hk0 : 0 < k
                · have hk0z : (0 : Int) < (k : Int) := by omega
                  have hd : decide ((0 : Int) < (k : Int)) = true := decide_eq_true hk0z
                  obtain ⟨kp, hkp⟩ : ∃ kp, k - 1 = kp := ⟨_, rfl⟩
                  have q1 : (k : Int) - 1 = (kp : Int) := by omega
                  have q2 : IntKind.i64.wrap (kp : Int) = (kp : Int) := by rw [IntKind.wrap_i64]; omega
                  have q3 : (kp : Int) < (L.length : Int) := by omega
                  have q4 : (0 : Int) ≤ (kp : Int) := by omega
                  have hkpl : kp < L.length := by omega
                  have c1 := (HGC.out wr HJ.out kp hkpl).1
                  have c2 := (HGC.out wr HJ.out k hk).1
                  have hlt : L[kp].id < L[k].id := List.pairwise_iff_getElem.1 HSR.out kp k hkpl hk (by omega)
                  obtain ⟨i1, hi1⟩ : ∃ i1, L[kp].id = i1 := ⟨_, rfl⟩
                  obtain ⟨i2, hi2⟩ : ∃ i2, L[k].id = i2 := ⟨_, rfl⟩
                  rw [hi1] at c1 hlt
                  rw [hi2] at c2 hlt
                  have hge : ¬ i2 ≤ i1 := by omega
                  clear hi1 hi2 hkp hlt
                  go_wp2
                  go_quiet (fail)
                  go_wp2
                  go_meet
                  exact ⟨by simpa using hge, Lib.hid (HOD.out _).1, Lib.hid (HOD.out _).2⟩
                · have hd : decide ((0 : Int) < (k : Int)) = false := decide_eq_false (by omega)
                  go_wp2
                  go_quiet (fail)
                  go_wp2
                  go_meet
                  exact ⟨by simp, Lib.hid (HOD.out _).1, Lib.hid (HOD.out _).2⟩
              case rest =>
                obtain ⟨rfl, HO2, HJ2⟩ := hcut
                clear HO HJ HOD
                have HCJ := Lib.hid (fun W hW => HGC.out W hW k hk)
                have HPK := HPL.out k hk
                have CG : Hid (∀ W, Below w3.heap.size w3 W → Calls Tryz.prog 24 #[.string L[k].p, .string t, .bool L[k].f] W fun e w' => e = .returned (.bool (mG t.data.toList L[k])) ∧ Below W.heap.size W w') := Lib.hid (fun W _ => gmat_any L[k].p t L[k].f W HPK HPT.out)
                obtain ⟨m, hm⟩ : ∃ m, mG t.data.toList L[k] = m := ⟨_, rfl⟩
                have HTM := Lib.hid (HTK.out m hm)
                rw [hm] at CG
                obtain ⟨⟨gi, gp, gf⟩, hgk⟩ : ∃ y, L[k] = y := ⟨_, rfl⟩
                rw [hgk] at HCJ CG HTM
                dsimp only at HCJ CG HTM
                clear hm hgk HPK HTK
                have hJd := HJ2.out.drew
                go_upto_region 18 with fail
                go_region_held3 (fun w' => w'.cell? ⟨gb, go + k * 3 + 1, none⟩ = some (.string gp) ∧ w'.cell? ⟨gb, go + k * 3 + 2, none⟩ = some (.bool gf)) (first | exact (HCJ.out _ (by assumption)).2)
                  (first
                  | (go_at_call 24; refine (CG.out _ (by assumption)).mono ?_; rintro e w6 ⟨rfl, hb6⟩; have hJ6 := hJd.trans (hb6.mono hJd.size)))
                all_goals
                  have HO6 : Hid (OwnI w6 w3.heap.size u13 (((L.take k).filter (mG t.data.toList)).map (·.id))) := Lib.hid ((HO2.out.later (Below.refl _ _).drew).later hb6)
                  have HJ6 := Lib.hid hJ6
                  clear hb6 hJ6 hJd HO2 HJ2
                  cases m with
                  | true =>
                    have c0 := (HCJ.out _ HJ6.out).1
                    have HB7 : Hid (Below w3.heap.size w3 (w6.alloc (.cells #[.int .i64 gi] 3))) := Lib.hid (HJ6.out.alloc HJ6.out.size _)
                    have HO7 : Hid (OwnI (w6.alloc (.cells #[.int .i64 gi] 3)) w3.heap.size u13 (((L.take k).filter (mG t.data.toList)).map (·.id))) := Lib.hid (World.ownsRow.alloc HO6.out _)
                    have HLN : Hid ((((L.take k).filter (mG t.data.toList)).map (·.id)).length + 1 ≤ 3000000) := Lib.hid (by
                      rw [List.length_map]
                      have := List.length_filter_le (mG t.data.toList) (L.take k)
                      rw [List.length_take] at this
                      omega)
                    have HI7 := Lib.hid (ints_lit1 w6 gi 3)
                    clear HCJ
                    go_wp2_with (at_builtin; refine appI w3.heap.size HO7.out HI7.out HLN.out HB7.out.size rfl _ _ rfl rfl rfl ?_; intro v8 w8 ho8 hg8)
                    have hJ8 := below_appI HB7.out HO7.out HB7.out.size hg8
                    rw [← show (((L.take (k + 1)).filter (mG t.data.toList)).map (·.id)) = (((L.take k).filter (mG t.data.toList)).map (·.id)) ++ [gi] from HTM.out] at ho8
                    go_roundg (L.length - (k + 1))
                    case measure => omega
                    case rel => exact ⟨k + 1, by omega, by go_num, Lib.hid ho8, Lib.hid hJ8⟩
                  | false =>
                    have ho8 := HO6.out
                    rw [← (show (((L.take (k + 1)).filter (mG t.data.toList)).map (·.id)) = (((L.take k).filter (mG t.data.toList)).map (·.id)) from HTM.out.trans (List.append_nil _))] at ho8
                    replace ho8 := Lib.hid ho8
                    go_wp2
                    go_roundg (L.length - (k + 1))
                    case measure => omega
                    case rel => exact ⟨k + 1, by omega, by go_num, ho8, HJ6⟩
            · have hkz : ¬ (k : Int) < (L.length : Int) := by omega
              obtain rfl : k = L.length := by omega
              have HW : Hid (∃ ids, ids = (L.filter (mG t.data.toList)).map (·.id) ∧ Ints wr u13 ids) := Lib.hid ⟨_, rfl, by
                have := HO.out.ints
                rwa [List.take_length] at this⟩
              obtain ⟨ids, hids, hiw⟩ := HW.out
              have HIDS := Lib.hid hids
              have HIL : Hid (ids.length ≤ 1000000) := Lib.hid (by
                rw [hids, List.length_map]
                have := List.length_filter_le (mG t.data.toList) L
                omega)
              have HTW := Lib.hid (HT3.out.below HJ.out)
              have HGW := Lib.hid (HGR.out.below HJ.out)
              have HBW := Lib.hid (HB3.out.trans (HJ.out.mono HB3.out.size))
              have HIW := Lib.hid hiw
              clear hids hiw HW HO HJ HT3 HGR HB3 HGC HPL HSR
              have C9 := Lib.hid (imatch_any HTW.out.one (by omega) t HPT.out)
              go_wp2_with fail
              refine C9.out.mono ?_
              rintro e w10 ⟨v10, ids', rfl, hb10, hrow10, hids'⟩
              have C10 : Hid (Calls Tryz.prog 33 #[v10, u13] w10 fun e w' => e = .returned (.bool true) ∧ Below w10.heap.size w10 w') := Lib.hid (by
                have := same_any (Ints.of_own hrow10) (HIW.out.below hb10) (by rw [hids', ← HIDS.out]; exact HIL.out)
                rwa [show (ids' == ids) = true by rw [hids', HIDS.out]; simp] at this)
              have HT10 := Lib.hid (HTW.out.below hb10)
              have HG10 := Lib.hid (HGW.out.below hb10)
              have HB10 := Lib.hid (HBW.out.trans (hb10.mono HBW.out.size))
              have HI10 := Lib.hid (HIW.out.below hb10)
              clear hb10 hrow10 hids' C9 HTW HGW HBW HIW
              go_wp2_with fail
              refine C10.out.mono ?_
              rintro e w11 ⟨rfl, hb11⟩
              have HT11 := Lib.hid (HT10.out.below hb11)
              have HG11 := Lib.hid (HG10.out.below hb11)
              have HB11 := Lib.hid (HB10.out.trans (hb11.mono HB10.out.size))
              have HI11 := Lib.hid (HI10.out.below hb11)
              have C11 := Lib.hid (imatch_any HT11.out.two (by omega) t HPT.out)
              clear hb11 C10 HT10 HG10 HB10 HI10
              go_wp2_with fail
              refine C11.out.mono ?_
              rintro e w12 ⟨v12, ids', rfl, hb12, hrow12, hids'⟩
              have C12 : Hid (Calls Tryz.prog 33 #[v12, u13] w12 fun e w' => e = .returned (.bool true) ∧ Below w12.heap.size w12 w') := Lib.hid (by
                have := same_any (Ints.of_own hrow12) (HI11.out.below hb12) (by rw [hids', ← HIDS.out]; exact HIL.out)
                rwa [show (ids' == ids) = true by rw [hids', HIDS.out]; simp] at this)
              have HT12 := Lib.hid (HT11.out.below hb12)
              have HG12 := Lib.hid (HG11.out.below hb12)
              have HB12' := Lib.hid (HB11.out.trans (hb12.mono HB11.out.size))
              clear hb12 hrow12 hids' C11 HT11 HG11 HB11 HI11
              go_wp2_with fail
              refine C12.out.mono ?_
              rintro e w13 ⟨rfl, hb13⟩
              have HT13 := Lib.hid (HT12.out.below hb13)
              have HG13 := Lib.hid (HG12.out.below hb13)
              have HB13 := Lib.hid (HB12'.out.trans (hb13.mono HB12'.out.size))
              have C13 := Lib.hid (iglobs_any HT13.out.two)
              clear hb13 C12 HT12 HG12 HB12'
              go_wp2_with fail
              refine C13.out.mono ?_
              rintro e w14 ⟨v14, rfl, ho14, hb14⟩
              have C14 : Hid (Calls Tryz.prog 39 #[v14, .slice ga L.length gc] w14 fun e w' => e = .returned (.bool true) ∧ Below w14.heap.size w14 w') := Lib.hid (by
                have := sameG_any ho14.reads (HG13.out.below hb14) (by omega)
                rwa [decide_eq_true rfl] at this)
              have HT14 := Lib.hid (HT13.out.below hb14)
              have HB14 := Lib.hid (HB13.out.trans (hb14.mono HB13.out.size))
              clear ho14 hb14 C13 HT13 HG13 HB13
              go_wp2_with fail
              refine C14.out.mono ?_
              rintro e w15 ⟨rfl, hb15⟩
              have C15 := Lib.hid (len_all (HT14.out.below hb15).one)
              have HB15 := Lib.hid (HB14.out.trans (hb15.mono HB14.out.size))
              clear hb15 C14 HT14 HB14
              go_wp2_with fail
              refine C15.out.mono ?_
              rintro e w16 ⟨rfl, e16⟩
              rw [e16]
              clear e16 w16
              have hfin := Lib.hid (HB0.out.trans (HB15.out.mono HB0.out.size))
              go_wp2
              go_ret
              exact ⟨rfl, hfin.out⟩
    · have htz : (100 : Int) < (t.size : Int) := by omega
      obtain ⟨va, vc, rfl⟩ : ∃ va vc, v = .slice va l.length vc := by
        obtain ⟨a, cap, e, _⟩ := hA
        exact ⟨a, cap, e⟩
      clear hA hok hmax hl ht
      go_enter Tryz.func6, Tryz.ntmps6
      go_wp2_with fail
      refine (C0.out _).mono ?_
      rintro e w0 ⟨rfl, hb0⟩
      go_wp2_with fail
      refine (CL.out _ hb0).mono ?_
      rintro e w0' ⟨rfl, rfl⟩
      go_wp2
      go_ret
      exact ⟨rfl, hb0⟩
  · rw [Bool.not_eq_true] at hl
    rw [hl] at CL
    obtain ⟨va, vc, rfl⟩ : ∃ va vc, v = .slice va l.length vc := by
      obtain ⟨a, cap, e, _⟩ := hA
      exact ⟨a, cap, e⟩
    clear hA hok hmax hl 
    go_enter Tryz.func6, Tryz.ntmps6
    go_wp2_with fail
    refine (C0.out _).mono ?_
    rintro e w0 ⟨rfl, hb0⟩
    go_wp2_with fail
    refine (CL.out _ hb0).mono ?_
    rintro e w0' ⟨rfl, rfl⟩
    go_wp2
    go_ret
    exact ⟨rfl, hb0⟩
end Go.Proofs.YtnpgmekgmelamaaGreat
