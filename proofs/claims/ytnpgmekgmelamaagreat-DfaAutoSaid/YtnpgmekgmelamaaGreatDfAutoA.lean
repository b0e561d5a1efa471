/-
  What is proved: outlawlaw09.DfaAuto returns true at any glob, fold, bound and strings: with a table or without one it matches what the glob matches. No conditions. (The walk; the frame lies in XDfAutoLaw.)
-/
import Derived.Test.YtnpgmekgmelamaaGreatDfAll
import Derived.Test.YtnpgmekgmelamaaGreatDfStrs
import Derived.Test.YtnpgmekgmelamaaGreatGlMatch
import Derived.Deep.RegionHeld3
namespace Go.Proofs.YtnpgmekgmelamaaGreat
open Go.RowKit Go.Shelf Go.Maps

theorem gmatch_any (p t : ByteArray) (f : Bool) (w : World) (hp : p.size ≤ 1000000) (ht : t.size ≤ 1000000) :
    Calls Tryz.prog 24 #[.string p, .string t, .bool f] w fun e w' => e = .returned (.bool (mt f p.data.toList t.data.toList)) ∧ Below w.heap.size w w' := by
  have h : Calls Tryz.prog 24 #[.string p, .string t, .bool f] w fun e w' => e = .returned (.bool (mt f p.data.toList t.data.toList)) ∧ Drew w w' := by
    cases f with
    | true => exact match_core p t true 92 w hp ht (fun w => equality_any true w) eq_enters1 same_fold
    | false => exact match_core p t false 94 w hp ht (fun w => equality_any false w) eq_enters2 same_plain
  exact h.mono fun _ _ h => ⟨h.1, h.2.below⟩

theorem mt_normP (f : Bool) (p : ByteArray) (t : List UInt8) : mt f (normP p) t = mt f p.data.toList t := by
  unfold normP
  rw [norm_mt]
  rfl

/-- What New and Build answer together: an automaton, and a table unless it is full. -/
structure BothD (W3 : World) (p : ByteArray) (f : Bool) (most : Int) (b : Nat) (is : Bool) (dv : Value) (l2 : Nat) : Prop where
  full : ∀ W, Below W3.heap.size W3 W → Calls Tryz.prog 22 #[.pointer (some ⟨b, 0, none⟩)] W fun e w' => e = .returned (.bool (!is)) ∧ Below W.heap.size W w'
  states : ∀ W, Below W3.heap.size W3 W → Calls Tryz.prog 23 #[.pointer (some ⟨b, 0, none⟩)] W fun e w' => e = .returned (.int .i64 (l2 : Int)) ∧ Below W.heap.size W w'
  mat : ∀ W, Below W3.heap.size W3 W → ∀ t : ByteArray, t.size ≤ 1000000 → Calls Tryz.prog 25 #[.pointer (some ⟨b, 0, none⟩), .string t] W fun e w' => e = .returned (.bool (mt f p.data.toList t.data.toList)) ∧ Below W.heap.size W w'
  most : is = true → (l2 : Int) ≤ most
  chk : is = true → ∀ W, Below W3.heap.size W3 W → Calls Tryz.prog 14 #[dv] W fun e w' => e = .returned (.int .i64 0) ∧ Below W.heap.size W w'
  run : is = true → ∀ W, Below W3.heap.size W3 W → ∀ t : ByteArray, t.size ≤ 1000000 → Calls Tryz.prog 16 #[dv, .string t] W fun e w' => e = .returned (.bool (mt f p.data.toList t.data.toList)) ∧ Below W.heap.size W w'

theorem join_any {p : ByteArray} {f : Bool} {most : Int} {w2 w3 : World} {e : Ending} {b n : Nat} {full : Bool} (hc : checkN p.size = 0) (h256 : most ≤ 256) (h60 : p.size ≤ 60)
    (hA : ∀ W, Below w2.heap.size w2 W → Answers W b f (normP p) full n)
    (hcs : full = false ∧ Closed (cntL f (normP p)) (sampL (cntL f (normP p))) n ∧ (n : Int) ≤ most ∨ full = true ∧ n = 0 ∧ ∀ m : Nat, (m : Int) ≤ most → ¬ Closed (cntL f (normP p)) (sampL (cntL f (normP p))) m)
    (hB : (∃ n : Nat, 1 ≤ n ∧ (n : Int) ≤ most ∧ most ≤ 256 ∧ LessB p f ∧ Closed (cntL f (normP p)) (sampL (cntL f (normP p))) n ∧ ∃ cv nv av, e = .returned (.tuple #[.agg #[cv, nv, av], .bool true]) ∧ DfaR w3 cv nv av (clsI (clsTo f (sampL (cntL f (normP p))) 256)) (tabRows (cntL f (normP p)) (sampL (cntL f (normP p))) n) (tabAccs (cntL f (normP p)) (sampL (cntL f (normP p))) n)) ∨
      ((∀ n : Nat, LessB p f → (n : Int) ≤ most → most ≤ 256 → ¬ Closed (cntL f (normP p)) (sampL (cntL f (normP p))) n) ∧ e = .returned (.tuple #[.agg #[.slice none 0 0, .slice none 0 0, .slice none 0 0], .bool false])))
    (hb : Below w2.heap.size w2 w3) :
    ∃ (is : Bool) (a1 a2 a3 : Option Addr) (l1 l2 l3 c1 c2 c3 : Nat), e = .returned (.tuple #[.agg #[.slice a1 l1 c1, .slice a2 l2 c2, .slice a3 l3 c3], .bool is]) ∧ BothD w3 p f most b is (.agg #[.slice a1 l1 c1, .slice a2 l2 c2, .slice a3 l3 c3]) l2 := by
  have h23 : ∀ W, Below w3.heap.size w3 W → Below w2.heap.size w2 W := fun W h => hb.trans (h.mono hb.size)
  have hm : ∀ W, Below w3.heap.size w3 W → ∀ t : ByteArray, t.size ≤ 1000000 → Calls Tryz.prog 25 #[.pointer (some ⟨b, 0, none⟩), .string t] W fun e w' => e = .returned (.bool (mt f p.data.toList t.data.toList)) ∧ Below W.heap.size W w' := fun W hW t ht => by
    have := (hA W (h23 W hW)).2.2 t ht
    rwa [mt_normP] at this
  rcases hB with ⟨n', h1, h2, _, _, hcl, cv, nv, av, rfl, hd⟩ | ⟨hno, rfl⟩
  · rcases hcs with ⟨rfl, hcl', _⟩ | ⟨_, _, hno⟩
    · obtain rfl := Closed.unique hcl hcl'
      have hcl255 : (sampL (cntL f (normP p))).length ≤ 256 := samp_len _ (by
        have h2 : (cntL f (normP p)).length = (normP p).length := cntL_len f (normP p)
        have h3 := normP_len p
        omega)
      have hn : n' ≤ 256 := by omega
      have hL := built_light (f := f) hcl hn hcl255
      have hM := built_may (f := f) (samp_fits _) hcl hn
      obtain ⟨a1, c1, rfl, _⟩ := hd.cls.reads
      obtain ⟨a2, c2, hv2, _⟩ := hd.rows
      obtain ⟨a3, c3, rfl, _⟩ := hd.accs
      rw [tabRows_len hcl] at hv2
      subst hv2
      refine ⟨true, a1, a2, a3, _, n', _, c1, c2, c3, rfl, fun W hW => (hA W (h23 W hW)).1, fun W hW => (hA W (h23 W hW)).2.1, hm, fun _ => h2, fun _ W hW => check_ok (hd.below hW) hL hM, fun _ W hW t ht => ?_⟩
      have := run_ok (hd.below hW) hL hM t ht
      rwa [built_run (samp_fits _) hcl, mt_normP] at this
    · exact absurd hcl (hno n' h2)
  · rcases hcs with ⟨_, hcl', h2⟩ | ⟨rfl, rfl, _⟩
    · exact absurd hcl' (hno n hc h2 h256)
    · exact ⟨false, none, none, none, 0, 0, 0, 0, 0, 0, rfl, fun W hW => (hA W (h23 W hW)).1, fun W hW => (hA W (h23 W hW)).2.1, hm, (fun h => by cases h), (fun h => by cases h), (fun h => by cases h)⟩

/-- A call's contract, told from an earlier world on. -/
theorem on3 {W3 W : World} {f : Nat} {args : Array Value} {v : Ending} (h : Calls Tryz.prog f args W fun e w' => e = v ∧ Below W.heap.size W w') (hb : Below W3.heap.size W3 W) :
    Calls Tryz.prog f args W fun e w' => e = v ∧ Below W3.heap.size W3 w' := h.mono fun _ _ ⟨a, b⟩ => ⟨a, hb.trans (b.mono hb.size)⟩

theorem lightT_all {l : List ByteArray} (h : lightT l 20 200 = true) : l.length ≤ 20 ∧ ∀ (j : Nat) x, l[j]? = some x → x.size ≤ 200 := by
  unfold lightT at h
  rw [Bool.and_eq_true, List.all_eq_true] at h
  exact ⟨by simpa using h.2, fun j x hx => by simpa using h.1 x (List.mem_of_getElem? hx)⟩

set_option maxRecDepth 100000 in
set_option maxHeartbeats 4000000 in
theorem dauto_any (p : ByteArray) (f : Bool) (most : Int) {v : Value} {l : List ByteArray} {w : World} (hS : StrsAt w v l) (hn : l.length ≤ maxLen) :
    Calls Tryz.prog 4 #[.string p, .bool f, .int .i64 most, v] w fun e w' => e = .returned (.bool true) ∧ Below w.heap.size w w' := by
  by_cases hL : (decide (p.size ≤ 60) && lightT l 20 200) = true
  · have hL2 := hL
    rw [Bool.and_eq_true] at hL2
    have h60 : p.size ≤ 60 := by simpa using hL2.1
    obtain ⟨hl20, hx⟩ := lightT_all hL2.2
    have C0 := Lib.hid (fun w => lives_any w)
    have CL : Hid (∀ W, Below w.heap.size w W → Calls Tryz.prog 9 #[.string p, v] W fun e w' => e = .returned (.bool true) ∧ w' = W) := Lib.hid (fun W hW => by
      have := light_list p (hS.below hW) (by omega)
      rwa [hL] at this)
    have CN := Lib.hid (fun w => auto_all p f most w h60)
    have CB := Lib.hid (fun w => build_all p f most w h60)
    have CK := Lib.hid (fun w => check_any p w)
    have CG : Hid (∀ W (t : ByteArray), t.size ≤ 1000000 → Calls Tryz.prog 24 #[.string p, .string t, .bool f] W fun e w' => e = .returned (.bool (mt f p.data.toList t.data.toList)) ∧ Below W.heap.size W w') := Lib.hid (fun W t ht => gmatch_any p t f W (by omega) ht)
    have HS : Hid (StrsAt w v l) := Lib.hid hS
    obtain ⟨va, vc, rfl, _⟩ := hS
    have HX := Lib.hid hx
    have hl20z : (l.length : Int) ≤ 20 := by omega
    have H60 := Lib.hid h60
    clear hL hL2 hx h60 hn
    go_enter Tryz.func4, Tryz.ntmps4
    go_wp2_with fail
    refine (C0.out _).mono ?_
    rintro e w0 ⟨rfl, hb0⟩
    go_wp2_with fail
    refine (CL.out _ hb0).mono ?_
    rintro e w0' ⟨rfl, rfl⟩
    go_wp2_with fail
    refine (CN.out _).mono ?_
    rintro e w2 ⟨h | ⟨hck, rfl⟩ | ⟨hck, hmo, rfl⟩, hb2⟩
    · obtain ⟨b, n, full, hck, h1, h256, rfl, hA, hcs⟩ := h
      have HA := Lib.hid hA
      have HC := Lib.hid hcs
      have HCK := Lib.hid hck
      have H256 := Lib.hid h256
      clear hA hcs hck h1 h256
      go_wp2_with fail
      refine (CB.out _).mono ?_
      rintro e w3 ⟨hB, hb3⟩
      obtain ⟨is, a1, a2, a3, l1, l2, l3, c1, c2, c3, rfl, hD⟩ := join_any HCK.out H256.out H60.out HA.out HC.out hB hb3
      have HD := Lib.hid hD
      have hb03 : Below w.heap.size w w3 := hb0.trans ((hb2.trans (hb3.mono hb2.size)).mono hb0.size)
      obtain ⟨W3, hW3⟩ : ∃ W3, w3.alloc (.cells #[.slice a1 l1 c1, .slice a2 l2 c2, .slice a3 l3 c3] 26) = W3 := ⟨_, rfl⟩
      have hA3 : Hid (Below w3.heap.size w3 W3) := Lib.hid (by rw [← hW3]; exact (Below.refl _ _).alloc (Nat.le_refl _) _)
      have hsz3 : Hid (W3.heap.size = w3.heap.size + 1) := Lib.hid (by rw [← hW3]; simp)
      have K3 : Hid (∀ W, Below W3.heap.size W3 W → W.cell? ⟨w3.heap.size, 0, none⟩ = some (.slice a1 l1 c1) ∧ W.cell? ⟨w3.heap.size, 1, none⟩ = some (.slice a2 l2 c2) ∧ W.cell? ⟨w3.heap.size, 2, none⟩ = some (.slice a3 l3 c3)) := Lib.hid (fun W hW => by
        have hc : ∀ i, W.cell? ⟨w3.heap.size, i, none⟩ = (#[.slice a1 l1 c1, .slice a2 l2 c2, .slice a3 l3 c3] : Array Value)[i]? := fun i => (hW.cell (p := ⟨w3.heap.size, i, none⟩) (by show w3.heap.size < W3.heap.size; rw [hsz3.out]; omega)).trans (by rw [← hW3]; exact World.cell?_alloc_new ..)
        exact ⟨hc 0, hc 1, hc 2⟩)
      have HW : Hid (Below w.heap.size w W3) := Lib.hid (hb03.trans (hA3.out.mono hb03.size))
      have HT : Hid (∀ W, Below W3.heap.size W3 W → Below w3.heap.size w3 W) := Lib.hid (fun W h => hA3.out.trans (h.mono hA3.out.size))
      have hJ0 : Below W3.heap.size W3 W3.drew := (Below.refl _ _).drew
      have CF := Lib.hid (fun W hW => on3 (W3 := W3) (HD.out.full W (HT.out W hW)) hW)
      have CS := Lib.hid (fun W hW => on3 (W3 := W3) (HD.out.states W (HT.out W hW)) hW)
      have CM := Lib.hid (fun W hW (t : ByteArray) ht => on3 (W3 := W3) (HD.out.mat W (HT.out W hW) t ht) hW)
      have HCELL : Hid (∀ j (hj : j < l.length), ∃ bs off, va = some ⟨bs, off, none⟩ ∧ l[j].size ≤ 200 ∧ ∀ W, Below W3.heap.size W3 W → W.cell? ⟨bs, off + j, none⟩ = some (.string l[j])) := Lib.hid (fun j hj => by
        obtain ⟨a', cap', e1, h1⟩ := HS.out
        injection e1 with e2 e3 e4
        subst e2
        obtain ⟨bs, off, e5, hlt, hcell⟩ := h1 j l[j] (List.getElem?_eq_getElem hj)
        refine ⟨bs, off, e5, HX.out j _ (List.getElem?_eq_getElem hj), fun W hW => ?_⟩
        rw [World.cell?_of_block (w := w) ((HW.out.trans (hW.mono HW.out.size)).block bs hlt)]
        exact hcell)
      have HW3 := Lib.hid hW3
      obtain ⟨ns, hns⟩ : ∃ ns, (!is) = ns := ⟨_, rfl⟩
      rw [hns] at CF
      clear hb0 hb2 hb3 hb03 hB HA HC HCK CN CB C0 CL CK HS HX hW3
      cases is with
      | false =>
        obtain rfl : ns = true := by rw [← hns]; rfl
        clear hns HD
        go_upto_region 7 with fail
        rw [HW3.out]
        go_wp2
        refine wp_region_held_drew (S := (fun w' => w'.cell? ⟨w3.heap.size, 0, none⟩ = some (.slice a1 l1 c1) ∧ w'.cell? ⟨w3.heap.size, 1, none⟩ = some (.slice a2 l2 c2) ∧ w'.cell? ⟨w3.heap.size, 2, none⟩ = some (.slice a3 l3 c3))) (by kernel_rfl) ?_ (fun hHeld => ?_)
        · exact K3.out _ hJ0
        refine wpAnyH_take (i := 0) (oi := { dst := some 61, op := Op.move (Operand.tmp 9), type := 39, pos := "law.go:78", after := #[], guard := none }) (v := ?vb0) rfl (by kernel_rfl) (by kernel_rfl) (by kernel_rfl) (fun _ _ _ h => h) (Or.inl ⟨by rfl, ?hb0⟩) (by assumption) ?rb0
        case hb0 => (intro w hSw; (try dsimp only at hSw); go_simp; try with_reducible rfl)
        try simp only [Act.put, List.setIfInBounds_toArray, List.set_cons_zero, List.set_cons_succ]
        refine wpAnyH_take (i := 2) (oi := { dst := some 63, op := Op.move (Operand.tmp 12), type := 4, pos := "law.go:78", after := #[], guard := none }) (v := ?vb2) rfl (by kernel_rfl) (by kernel_rfl) (by kernel_rfl) (fun _ _ _ h => h) (Or.inl ⟨by rfl, ?hb2⟩) (by assumption) ?rb2
        case hb2 => (intro w hSw; (try dsimp only at hSw); go_simp; try with_reducible rfl)
        try simp only [Act.put, List.setIfInBounds_toArray, List.set_cons_zero, List.set_cons_succ]
        refine wpAnyH_ready (rs := [1]) (by kernel_rfl) (by simp) ?_
        refine AllReadyH.cons (o := { dst := some 62, op := Op.call { callee := Callee.value (Operand.func 22), args := #[Operand.tmp 61], argTypes := #[39] }, type := 4, pos := "law.go:78", after := #[{ on := 0, ground := Ground.data }], guard := none }) rfl (fun K hK => ?_) AllReadyH.nil
        go_simp
        go_at_call 22; refine (CF.out _ (by assumption)).mono ?_; rintro e w6 ⟨rfl, hJ6⟩
        refine hK.out _ _ ?_ (fun hHeld => ?_)
        · exact K3.out _ hJ6
        clear hK K
        try simp only [Act.put, List.setIfInBounds_toArray, List.set_cons_zero, List.set_cons_succ]
        refine wpAnyH_take (i := 3) (oi := { dst := some 64, op := Op.binOp BinOp.eql 4 (Operand.tmp 62) (Operand.tmp 63) 4, type := 4, pos := "law.go:78", after := #[{ on := 1, ground := Ground.data }, { on := 2, ground := Ground.data }], guard := none }) (v := ?vb3) rfl (by kernel_rfl) (by kernel_rfl) (by kernel_rfl) (fun _ _ _ h => h) (Or.inl ⟨by rfl, ?hb3⟩) (by assumption) ?rb3
        case hb3 => (intro w hSw; (try dsimp only at hSw); go_simp; try with_reducible rfl)
        try simp only [Act.put, List.setIfInBounds_toArray, List.set_cons_zero, List.set_cons_succ]
        refine wpAnyH_take (i := 4) (oi := { dst := some 65, op := Op.move (Operand.tmp 64), type := 4, pos := "law.go:78", after := #[{ on := 3, ground := Ground.data }, { on := 1, ground := Ground.chain }], guard := none }) (v := ?vb4) rfl (by kernel_rfl) (by kernel_rfl) (by kernel_rfl) (fun _ _ _ h => h) (Or.inl ⟨by rfl, ?hb4⟩) (by assumption) ?rb4
        case hb4 => (intro w hSw; (try dsimp only at hSw); go_simp; try with_reducible rfl)
        try simp only [Act.put, List.setIfInBounds_toArray, List.set_cons_zero, List.set_cons_succ]
        refine wpAnyH_take (i := 5) (oi := { dst := some 66, op := Op.move (Operand.tmp 9), type := 39, pos := "law.go:78", after := #[{ on := 4, ground := Ground.guard }], guard := some (4, false) }) (v := ?vb5) rfl (by kernel_rfl) (by kernel_rfl) (by kernel_rfl) (fun _ _ _ h => h) (Or.inl ⟨by rfl, ?hb5⟩) (by assumption) ?rb5
        case hb5 => (intro w hSw; (try dsimp only at hSw); go_simp; try with_reducible rfl)
        try simp only [Act.put, List.setIfInBounds_toArray, List.set_cons_zero, List.set_cons_succ]
        refine wpAnyH_take (i := 7) (oi := { dst := some 68, op := Op.fieldAddr 26 (Operand.tmp 11) 1, type := 0, pos := "law.go:78", after := #[{ on := 4, ground := Ground.guard }], guard := some (4, false) }) (v := ?vb7) rfl (by kernel_rfl) (by kernel_rfl) (by kernel_rfl) (fun _ _ _ h => h) (Or.inl ⟨by rfl, ?hb7⟩) (by assumption) ?rb7
        case hb7 => (intro w hSw; (try dsimp only at hSw); go_simp; try with_reducible rfl)
        try simp only [Act.put, List.setIfInBounds_toArray, List.set_cons_zero, List.set_cons_succ]
        refine wpAnyH_take (i := 8) (oi := { dst := some 69, op := Op.load 23 (Operand.tmp 68), type := 23, pos := "law.go:78", after := #[{ on := 7, ground := Ground.data }, { on := 4, ground := Ground.guard }], guard := some (4, false) }) (v := ?vb8) rfl (by kernel_rfl) (by kernel_rfl) (by kernel_rfl) (fun _ _ _ h => h) (Or.inl ⟨by rfl, ?hb8⟩) (by assumption) ?rb8
        case hb8 => (intro w hSw; (try dsimp only at hSw); go_simp; try with_reducible rfl)
        try simp only [Act.put, List.setIfInBounds_toArray, List.set_cons_zero, List.set_cons_succ]
        refine wpAnyH_take (i := 9) (oi := { dst := some 70, op := Op.call { callee := Callee.builtin Builtin.len, args := #[Operand.tmp 69], argTypes := #[23] }, type := 3, pos := "law.go:78", after := #[{ on := 8, ground := Ground.data }, { on := 4, ground := Ground.guard }], guard := some (4, false) }) (v := ?vb9) rfl (by kernel_rfl) (by kernel_rfl) (by kernel_rfl) (fun _ _ _ h => h) (Or.inl ⟨by rfl, ?hb9⟩) (by assumption) ?rb9
        case hb9 => (intro w hSw; (try dsimp only at hSw); go_simp; try with_reducible rfl)
        try simp only [Act.put, List.setIfInBounds_toArray, List.set_cons_zero, List.set_cons_succ]
        refine wpAnyH_ready (rs := [6]) (by kernel_rfl) (by simp) ?_
        refine AllReadyH.cons (o := { dst := some 67, op := Op.call { callee := Callee.value (Operand.func 23), args := #[Operand.tmp 66], argTypes := #[39] }, type := 3, pos := "law.go:78", after := #[{ on := 5, ground := Ground.data }, { on := 4, ground := Ground.chain }, { on := 4, ground := Ground.guard }], guard := some (4, false) }) rfl (fun K hK => ?_) AllReadyH.nil
        go_simp
        go_at_call 23; refine (CS.out _ (by assumption)).mono ?_; rintro e w7 ⟨rfl, hJ7⟩
        refine hK.out _ _ ?_ (fun hHeld => ?_)
        · exact K3.out _ hJ7
        clear hK K
        try simp only [Act.put, List.setIfInBounds_toArray, List.set_cons_zero, List.set_cons_succ]
        refine wpAnyH_take (i := 10) (oi := { dst := some 71, op := Op.binOp BinOp.neq 3 (Operand.tmp 67) (Operand.tmp 70) 3, type := 4, pos := "law.go:78", after := #[{ on := 6, ground := Ground.data }, { on := 9, ground := Ground.data }, { on := 4, ground := Ground.guard }], guard := some (4, false) }) (v := ?vb10) rfl (by kernel_rfl) (by kernel_rfl) (by kernel_rfl) (fun _ _ _ h => h) (Or.inl ⟨by rfl, ?hb10⟩) (by assumption) ?rb10
        case hb10 => (intro w hSw; (try dsimp only at hSw); go_simp; try with_reducible rfl)
        try simp only [Act.put, List.setIfInBounds_toArray, List.set_cons_zero, List.set_cons_succ]
        refine wpAnyH_take (i := 11) (oi := { dst := some 72, op := Op.pick (Operand.tmp 65) (Operand.const (Value.bool true)) (Operand.tmp 71), type := 4, pos := "law.go:78", after := #[{ on := 4, ground := Ground.data }, { on := 10, ground := Ground.data }], guard := none }) (v := ?vb11) rfl (by kernel_rfl) (by kernel_rfl) (by kernel_rfl) (fun _ _ _ h => h) (Or.inl ⟨by rfl, ?hb11⟩) (by assumption) ?rb11
        case hb11 => (intro w hSw; (try dsimp only at hSw); go_simp; try with_reducible rfl)
        try simp only [Act.put, List.setIfInBounds_toArray, List.set_cons_zero, List.set_cons_succ]
        refine wpAnyH_take (i := 12) (oi := { dst := some 73, op := Op.move (Operand.tmp 72), type := 4, pos := "law.go:78", after := #[{ on := 11, ground := Ground.data }, { on := 6, ground := Ground.chain }], guard := none }) (v := ?vb12) rfl (by kernel_rfl) (by kernel_rfl) (by kernel_rfl) (fun _ _ _ h => h) (Or.inl ⟨by rfl, ?hb12⟩) (by assumption) ?rb12
        case hb12 => (intro w hSw; (try dsimp only at hSw); go_simp; try with_reducible rfl)
        try simp only [Act.put, List.setIfInBounds_toArray, List.set_cons_zero, List.set_cons_succ]
        refine wpAnyH_take (i := 13) (oi := { dst := some 74, op := Op.move (Operand.tmp 12), type := 4, pos := "law.go:78", after := #[{ on := 12, ground := Ground.guard }], guard := some (12, false) }) (v := ?vb13) rfl (by kernel_rfl) (by kernel_rfl) (by kernel_rfl) (fun _ _ _ h => h) (Or.inl ⟨by rfl, ?hb13⟩) (by assumption) ?rb13
        case hb13 => (intro w hSw; (try dsimp only at hSw); go_simp; try with_reducible rfl)
        try simp only [Act.put, List.setIfInBounds_toArray, List.set_cons_zero, List.set_cons_succ]
        refine wpAnyH_take (i := 14) (oi := { dst := some 75, op := Op.move (Operand.tmp 74), type := 4, pos := "law.go:78", after := #[{ on := 13, ground := Ground.data }, { on := 12, ground := Ground.chain }, { on := 12, ground := Ground.guard }], guard := some (12, false) }) (v := ?vb14) rfl (by kernel_rfl) (by kernel_rfl) (by kernel_rfl) (fun _ _ _ h => h) (Or.inl ⟨by rfl, ?hb14⟩) (by assumption) ?rb14
        case hb14 => (intro w hSw; (try dsimp only at hSw); go_simp; try with_reducible rfl)
        try simp only [Act.put, List.setIfInBounds_toArray, List.set_cons_zero, List.set_cons_succ]
        refine wpAnyH_take (i := 15) (oi := { dst := some 76, op := Op.load 26 (Operand.tmp 11), type := 26, pos := "law.go:78", after := #[{ on := 14, ground := Ground.guard }], guard := some (14, true) }) (v := undef) rfl (by kernel_rfl) (by kernel_rfl) (by kernel_rfl) (fun _ _ _ h => h) (Or.inr ⟨by rfl, rfl⟩) (by assumption) ?_
        try simp only [Act.put, List.setIfInBounds_toArray, List.set_cons_zero, List.set_cons_succ]
        refine wpAnyH_take (i := 16) (oi := { dst := some 77, op := Op.call { callee := Callee.value (Operand.func 14), args := #[Operand.tmp 76], argTypes := #[26] }, type := 33, pos := "law.go:78", after := #[{ on := 15, ground := Ground.data }, { on := 14, ground := Ground.chain }, { on := 14, ground := Ground.guard }], guard := some (14, true) }) (v := undef) rfl (by kernel_rfl) (by kernel_rfl) (by kernel_rfl) (fun _ _ _ h => h) (Or.inr ⟨by rfl, rfl⟩) (by assumption) ?_
        try simp only [Act.put, List.setIfInBounds_toArray, List.set_cons_zero, List.set_cons_succ]
        refine wpAnyH_take (i := 17) (oi := { dst := some 78, op := Op.binOp BinOp.neq 33 (Operand.tmp 77) (Operand.const (Value.int IntKind.i64 0)) 33, type := 4, pos := "law.go:78", after := #[{ on := 16, ground := Ground.data }, { on := 14, ground := Ground.guard }], guard := some (14, true) }) (v := undef) rfl (by kernel_rfl) (by kernel_rfl) (by kernel_rfl) (fun _ _ _ h => h) (Or.inr ⟨by rfl, rfl⟩) (by assumption) ?_
        try simp only [Act.put, List.setIfInBounds_toArray, List.set_cons_zero, List.set_cons_succ]
        refine wpAnyH_take (i := 18) (oi := { dst := some 79, op := Op.move (Operand.tmp 78), type := 4, pos := "law.go:78", after := #[{ on := 17, ground := Ground.data }, { on := 16, ground := Ground.chain }, { on := 14, ground := Ground.guard }], guard := some (14, true) }) (v := undef) rfl (by kernel_rfl) (by kernel_rfl) (by kernel_rfl) (fun _ _ _ h => h) (Or.inr ⟨by rfl, rfl⟩) (by assumption) ?_
        try simp only [Act.put, List.setIfInBounds_toArray, List.set_cons_zero, List.set_cons_succ]
        refine wpAnyH_take (i := 19) (oi := { dst := some 80, op := Op.fieldAddr 26 (Operand.tmp 11) 1, type := 0, pos := "law.go:78", after := #[{ on := 18, ground := Ground.guard }], guard := some (18, false) }) (v := undef) rfl (by kernel_rfl) (by kernel_rfl) (by kernel_rfl) (fun _ _ _ h => h) (Or.inr ⟨by rfl, rfl⟩) (by assumption) ?_
        try simp only [Act.put, List.setIfInBounds_toArray, List.set_cons_zero, List.set_cons_succ]
        refine wpAnyH_take (i := 20) (oi := { dst := some 81, op := Op.load 23 (Operand.tmp 80), type := 23, pos := "law.go:78", after := #[{ on := 19, ground := Ground.data }, { on := 18, ground := Ground.guard }], guard := some (18, false) }) (v := undef) rfl (by kernel_rfl) (by kernel_rfl) (by kernel_rfl) (fun _ _ _ h => h) (Or.inr ⟨by rfl, rfl⟩) (by assumption) ?_
        try simp only [Act.put, List.setIfInBounds_toArray, List.set_cons_zero, List.set_cons_succ]
        refine wpAnyH_take (i := 21) (oi := { dst := some 82, op := Op.call { callee := Callee.builtin Builtin.len, args := #[Operand.tmp 81], argTypes := #[23] }, type := 3, pos := "law.go:78", after := #[{ on := 20, ground := Ground.data }, { on := 18, ground := Ground.guard }], guard := some (18, false) }) (v := undef) rfl (by kernel_rfl) (by kernel_rfl) (by kernel_rfl) (fun _ _ _ h => h) (Or.inr ⟨by rfl, rfl⟩) (by assumption) ?_
        try simp only [Act.put, List.setIfInBounds_toArray, List.set_cons_zero, List.set_cons_succ]
        refine wpAnyH_take (i := 22) (oi := { dst := some 83, op := Op.move (Operand.tmp 2), type := 3, pos := "law.go:78", after := #[{ on := 18, ground := Ground.guard }], guard := some (18, false) }) (v := undef) rfl (by kernel_rfl) (by kernel_rfl) (by kernel_rfl) (fun _ _ _ h => h) (Or.inr ⟨by rfl, rfl⟩) (by assumption) ?_
        try simp only [Act.put, List.setIfInBounds_toArray, List.set_cons_zero, List.set_cons_succ]
        refine wpAnyH_take (i := 23) (oi := { dst := some 84, op := Op.binOp BinOp.gtr 3 (Operand.tmp 82) (Operand.tmp 83) 3, type := 4, pos := "law.go:78", after := #[{ on := 21, ground := Ground.data }, { on := 22, ground := Ground.data }, { on := 18, ground := Ground.guard }], guard := some (18, false) }) (v := undef) rfl (by kernel_rfl) (by kernel_rfl) (by kernel_rfl) (fun _ _ _ h => h) (Or.inr ⟨by rfl, rfl⟩) (by assumption) ?_
        try simp only [Act.put, List.setIfInBounds_toArray, List.set_cons_zero, List.set_cons_succ]
        refine wpAnyH_take (i := 24) (oi := { dst := some 85, op := Op.pick (Operand.tmp 79) (Operand.const (Value.bool true)) (Operand.tmp 84), type := 4, pos := "law.go:78", after := #[{ on := 18, ground := Ground.data }, { on := 23, ground := Ground.data }, { on := 14, ground := Ground.guard }], guard := some (14, true) }) (v := undef) rfl (by kernel_rfl) (by kernel_rfl) (by kernel_rfl) (fun _ _ _ h => h) (Or.inr ⟨by rfl, rfl⟩) (by assumption) ?_
        try simp only [Act.put, List.setIfInBounds_toArray, List.set_cons_zero, List.set_cons_succ]
        refine wpAnyH_take (i := 25) (oi := { dst := some 86, op := Op.pick (Operand.tmp 75) (Operand.tmp 85) (Operand.const (Value.bool false)), type := 4, pos := "law.go:78", after := #[{ on := 14, ground := Ground.data }, { on := 24, ground := Ground.data }, { on := 12, ground := Ground.guard }], guard := some (12, false) }) (v := ?vb25) rfl (by kernel_rfl) (by kernel_rfl) (by kernel_rfl) (fun _ _ _ h => h) (Or.inl ⟨by rfl, ?hb25⟩) (by assumption) ?rb25
        case hb25 => (intro w hSw; (try dsimp only at hSw); go_simp; try with_reducible rfl)
        try simp only [Act.put, List.setIfInBounds_toArray, List.set_cons_zero, List.set_cons_succ]
        refine wpAnyH_take (i := 26) (oi := { dst := some 87, op := Op.pick (Operand.tmp 73) (Operand.const (Value.bool true)) (Operand.tmp 86), type := 4, pos := "law.go:78", after := #[{ on := 12, ground := Ground.data }, { on := 25, ground := Ground.data }], guard := none }) (v := ?vb26) rfl (by kernel_rfl) (by kernel_rfl) (by kernel_rfl) (fun _ _ _ h => h) (Or.inl ⟨by rfl, ?hb26⟩) (by assumption) ?rb26
        case hb26 => (intro w hSw; (try dsimp only at hSw); go_simp; try with_reducible rfl)
        try simp only [Act.put, List.setIfInBounds_toArray, List.set_cons_zero, List.set_cons_succ]
        refine wpAnyH_done (by kernel_rfl) ?_ _
        go_wp2
        go_loopg [13] l.length (fun gk s13 wr => ∃ j : Nat, j + gk = l.length ∧ s13 = .int .i64 j ∧ Hid (Below W3.heap.size W3 wr))
        case atStart => exact ⟨0, by omega, rfl, Lib.hid hJ7⟩
        case round =>
          obtain ⟨j, hjg, rfl, HB⟩ := hrel
          by_cases hj : j < l.length
          · have hjz : (j : Int) < (l.length : Int) := by omega
            obtain ⟨bs, off, ea, hx2, hc⟩ := HCELL.out j hj
            have HXC := Lib.hid hc
            have k1 := hc wr HB.out
            obtain ⟨x, hxe⟩ : ∃ x, l[j] = x := ⟨_, rfl⟩
            rw [hxe] at HXC k1 hx2
            subst ea
            have hx1 : x.size ≤ 1000000 := by omega
            have CG1 := Lib.hid (fun W hW => on3 (W3 := W3) (CG.out W x hx1) hW)
            have CM1 := Lib.hid (fun W hW => CM.out W hW x hx1)
            obtain ⟨m, hm⟩ : ∃ m, mt f p.data.toList x.data.toList = m := ⟨_, rfl⟩
            rw [hm] at CG1 CM1
            clear hm hc hxe hx2 hx1
            go_wp2_with fail
            refine (CG1.out _ HB.out).mono ?_
            rintro e w5 ⟨rfl, hJ5⟩
            have hJd : Below W3.heap.size W3 w5.drew := hJ5.drew
            have c5 := HXC.out w5.drew hJd
            go_wp2
            refine wp_region_held_drew (S := (fun w' => w'.cell? ⟨bs, off + j, none⟩ = some (.string x))) (by kernel_rfl) ?_ (fun hHeld => ?_)
            · exact c5
            refine wpAnyH_take (i := 0) (oi := { dst := some 101, op := Op.move (Operand.tmp 9), type := 39, pos := "law.go:83", after := #[], guard := none }) (v := ?v0) rfl (by kernel_rfl) (by kernel_rfl) (by kernel_rfl) (fun _ _ _ h => h) (Or.inl ⟨by rfl, ?h0⟩) (by assumption) ?r0
            case h0 => (intro w hSw; (try dsimp only at hSw); go_simp; try with_reducible rfl)
            try simp only [Act.put, List.setIfInBounds_toArray, List.set_cons_zero, List.set_cons_succ]
            refine wpAnyH_take (i := 1) (oi := { dst := some 102, op := Op.move (Operand.tmp 3), type := 38, pos := "law.go:83", after := #[], guard := none }) (v := ?v1) rfl (by kernel_rfl) (by kernel_rfl) (by kernel_rfl) (fun _ _ _ h => h) (Or.inl ⟨by rfl, ?h1⟩) (by assumption) ?r1
            case h1 => (intro w hSw; (try dsimp only at hSw); go_simp; try with_reducible rfl)
            try simp only [Act.put, List.setIfInBounds_toArray, List.set_cons_zero, List.set_cons_succ]
            refine wpAnyH_take (i := 2) (oi := { dst := some 103, op := Op.move (Operand.tmp 13), type := 3, pos := "law.go:83", after := #[], guard := none }) (v := ?v2) rfl (by kernel_rfl) (by kernel_rfl) (by kernel_rfl) (fun _ _ _ h => h) (Or.inl ⟨by rfl, ?h2⟩) (by assumption) ?r2
            case h2 => (intro w hSw; (try dsimp only at hSw); go_simp; try with_reducible rfl)
            try simp only [Act.put, List.setIfInBounds_toArray, List.set_cons_zero, List.set_cons_succ]
            refine wpAnyH_take (i := 3) (oi := { dst := some 104, op := Op.indexAddr 38 (Operand.tmp 102) (Operand.tmp 103), type := 0, pos := "law.go:83", after := #[{ on := 1, ground := Ground.data }, { on := 2, ground := Ground.data }], guard := none }) (v := ?v3) rfl (by kernel_rfl) (by kernel_rfl) (by kernel_rfl) (fun _ _ _ h => h) (Or.inl ⟨by rfl, ?h3⟩) (by assumption) ?r3
            case h3 => (intro w hSw; (try dsimp only at hSw); go_simp; try with_reducible rfl)
            try simp only [Act.put, List.setIfInBounds_toArray, List.set_cons_zero, List.set_cons_succ]
            refine wpAnyH_take (i := 4) (oi := { dst := some 105, op := Op.load 9 (Operand.tmp 104), type := 9, pos := "law.go:83", after := #[{ on := 3, ground := Ground.data }], guard := none }) (v := ?v4) rfl (by kernel_rfl) (by kernel_rfl) (by kernel_rfl) (fun _ _ _ h => h) (Or.inl ⟨by rfl, ?h4⟩) (by assumption) ?r4
            case h4 => (intro w hSw; (try dsimp only at hSw); go_simp; try with_reducible rfl)
            try simp only [Act.put, List.setIfInBounds_toArray, List.set_cons_zero, List.set_cons_succ]
            refine wpAnyH_take (i := 6) (oi := { dst := some 107, op := Op.move (Operand.tmp 14), type := 4, pos := "law.go:83", after := #[], guard := none }) (v := ?v6) rfl (by kernel_rfl) (by kernel_rfl) (by kernel_rfl) (fun _ _ _ h => h) (Or.inl ⟨by rfl, ?h6⟩) (by assumption) ?r6
            case h6 => (intro w hSw; (try dsimp only at hSw); go_simp; try with_reducible rfl)
            try simp only [Act.put, List.setIfInBounds_toArray, List.set_cons_zero, List.set_cons_succ]
            refine wpAnyH_ready (rs := [5]) (by kernel_rfl) (by simp) ?_
            refine AllReadyH.cons (o := { dst := some 106, op := Op.call { callee := Callee.value (Operand.func 25), args := #[Operand.tmp 101, Operand.tmp 105], argTypes := #[39, 9] }, type := 4, pos := "law.go:83", after := #[{ on := 0, ground := Ground.data }, { on := 4, ground := Ground.data }], guard := none }) rfl (fun K hK => ?_) AllReadyH.nil
            go_simp
            go_at_call 25; refine (CM1.out _ (by assumption)).mono ?_; rintro e w6 ⟨rfl, hJ6⟩
            refine hK.out _ _ ?_ (fun hHeld => ?_)
            · exact HXC.out _ hJ6
            clear hK K
            try simp only [Act.put, List.setIfInBounds_toArray, List.set_cons_zero, List.set_cons_succ]
            refine wpAnyH_take (i := 7) (oi := { dst := some 108, op := Op.binOp BinOp.neq 4 (Operand.tmp 106) (Operand.tmp 107) 4, type := 4, pos := "law.go:83", after := #[{ on := 5, ground := Ground.data }, { on := 6, ground := Ground.data }], guard := none }) (v := ?v7) rfl (by kernel_rfl) (by kernel_rfl) (by kernel_rfl) (fun _ _ _ h => h) (Or.inl ⟨by rfl, ?h7⟩) (by assumption) ?r7
            case h7 => (intro w hSw; (try dsimp only at hSw); go_simp; try with_reducible rfl)
            try simp only [Act.put, List.setIfInBounds_toArray, List.set_cons_zero, List.set_cons_succ]
            refine wpAnyH_take (i := 8) (oi := { dst := some 109, op := Op.move (Operand.tmp 108), type := 4, pos := "law.go:83", after := #[{ on := 7, ground := Ground.data }, { on := 5, ground := Ground.chain }], guard := none }) (v := ?v8) rfl (by kernel_rfl) (by kernel_rfl) (by kernel_rfl) (fun _ _ _ h => h) (Or.inl ⟨by rfl, ?h8⟩) (by assumption) ?r8
            case h8 => (intro w hSw; (try dsimp only at hSw); go_simp; try with_reducible rfl)
            try simp only [Act.put, List.setIfInBounds_toArray, List.set_cons_zero, List.set_cons_succ]
            refine wpAnyH_take (i := 9) (oi := { dst := some 110, op := Op.move (Operand.tmp 12), type := 4, pos := "law.go:83", after := #[{ on := 8, ground := Ground.guard }], guard := some (8, false) }) (v := ?v9) rfl (by kernel_rfl) (by kernel_rfl) (by kernel_rfl) (fun _ _ _ h => h) (Or.inl ⟨by rfl, ?h9⟩) (by assumption) ?r9
            case h9 => (intro w hSw; (try dsimp only at hSw); go_simp; try with_reducible rfl)
            try simp only [Act.put, List.setIfInBounds_toArray, List.set_cons_zero, List.set_cons_succ]
            refine wpAnyH_take (i := 10) (oi := { dst := some 111, op := Op.move (Operand.tmp 110), type := 4, pos := "law.go:83", after := #[{ on := 9, ground := Ground.data }, { on := 8, ground := Ground.chain }, { on := 8, ground := Ground.guard }], guard := some (8, false) }) (v := ?v10) rfl (by kernel_rfl) (by kernel_rfl) (by kernel_rfl) (fun _ _ _ h => h) (Or.inl ⟨by rfl, ?h10⟩) (by assumption) ?r10
            case h10 => (intro w hSw; (try dsimp only at hSw); go_simp; try with_reducible rfl)
            try simp only [Act.put, List.setIfInBounds_toArray, List.set_cons_zero, List.set_cons_succ]
            refine wpAnyH_take (i := 11) (oi := { dst := some 112, op := Op.load 26 (Operand.tmp 11), type := 26, pos := "law.go:83", after := #[{ on := 10, ground := Ground.guard }], guard := some (10, true) }) (v := undef) rfl (by kernel_rfl) (by kernel_rfl) (by kernel_rfl) (fun _ _ _ h => h) (Or.inr ⟨by rfl, rfl⟩) (by assumption) ?_
            try simp only [Act.put, List.setIfInBounds_toArray, List.set_cons_zero, List.set_cons_succ]
            refine wpAnyH_take (i := 12) (oi := { dst := some 113, op := Op.move (Operand.tmp 3), type := 38, pos := "law.go:83", after := #[{ on := 10, ground := Ground.guard }], guard := some (10, true) }) (v := undef) rfl (by kernel_rfl) (by kernel_rfl) (by kernel_rfl) (fun _ _ _ h => h) (Or.inr ⟨by rfl, rfl⟩) (by assumption) ?_
            try simp only [Act.put, List.setIfInBounds_toArray, List.set_cons_zero, List.set_cons_succ]
            refine wpAnyH_take (i := 13) (oi := { dst := some 114, op := Op.move (Operand.tmp 13), type := 3, pos := "law.go:83", after := #[{ on := 10, ground := Ground.guard }], guard := some (10, true) }) (v := undef) rfl (by kernel_rfl) (by kernel_rfl) (by kernel_rfl) (fun _ _ _ h => h) (Or.inr ⟨by rfl, rfl⟩) (by assumption) ?_
            try simp only [Act.put, List.setIfInBounds_toArray, List.set_cons_zero, List.set_cons_succ]
            refine wpAnyH_take (i := 14) (oi := { dst := some 115, op := Op.indexAddr 38 (Operand.tmp 113) (Operand.tmp 114), type := 0, pos := "law.go:83", after := #[{ on := 12, ground := Ground.data }, { on := 13, ground := Ground.data }, { on := 10, ground := Ground.guard }], guard := some (10, true) }) (v := undef) rfl (by kernel_rfl) (by kernel_rfl) (by kernel_rfl) (fun _ _ _ h => h) (Or.inr ⟨by rfl, rfl⟩) (by assumption) ?_
            try simp only [Act.put, List.setIfInBounds_toArray, List.set_cons_zero, List.set_cons_succ]
            refine wpAnyH_take (i := 15) (oi := { dst := some 116, op := Op.load 9 (Operand.tmp 115), type := 9, pos := "law.go:83", after := #[{ on := 14, ground := Ground.data }, { on := 10, ground := Ground.guard }], guard := some (10, true) }) (v := undef) rfl (by kernel_rfl) (by kernel_rfl) (by kernel_rfl) (fun _ _ _ h => h) (Or.inr ⟨by rfl, rfl⟩) (by assumption) ?_
            try simp only [Act.put, List.setIfInBounds_toArray, List.set_cons_zero, List.set_cons_succ]
            refine wpAnyH_take (i := 16) (oi := { dst := some 117, op := Op.call { callee := Callee.value (Operand.func 16), args := #[Operand.tmp 112, Operand.tmp 116], argTypes := #[26, 9] }, type := 4, pos := "law.go:83", after := #[{ on := 11, ground := Ground.data }, { on := 15, ground := Ground.data }, { on := 10, ground := Ground.chain }, { on := 10, ground := Ground.guard }], guard := some (10, true) }) (v := undef) rfl (by kernel_rfl) (by kernel_rfl) (by kernel_rfl) (fun _ _ _ h => h) (Or.inr ⟨by rfl, rfl⟩) (by assumption) ?_
            try simp only [Act.put, List.setIfInBounds_toArray, List.set_cons_zero, List.set_cons_succ]
            refine wpAnyH_take (i := 17) (oi := { dst := some 118, op := Op.move (Operand.tmp 14), type := 4, pos := "law.go:83", after := #[{ on := 10, ground := Ground.guard }], guard := some (10, true) }) (v := undef) rfl (by kernel_rfl) (by kernel_rfl) (by kernel_rfl) (fun _ _ _ h => h) (Or.inr ⟨by rfl, rfl⟩) (by assumption) ?_
            try simp only [Act.put, List.setIfInBounds_toArray, List.set_cons_zero, List.set_cons_succ]
            refine wpAnyH_take (i := 18) (oi := { dst := some 119, op := Op.binOp BinOp.neq 4 (Operand.tmp 117) (Operand.tmp 118) 4, type := 4, pos := "law.go:83", after := #[{ on := 16, ground := Ground.data }, { on := 17, ground := Ground.data }, { on := 10, ground := Ground.guard }], guard := some (10, true) }) (v := undef) rfl (by kernel_rfl) (by kernel_rfl) (by kernel_rfl) (fun _ _ _ h => h) (Or.inr ⟨by rfl, rfl⟩) (by assumption) ?_
            try simp only [Act.put, List.setIfInBounds_toArray, List.set_cons_zero, List.set_cons_succ]
            refine wpAnyH_take (i := 19) (oi := { dst := some 120, op := Op.pick (Operand.tmp 111) (Operand.tmp 119) (Operand.const (Value.bool false)), type := 4, pos := "law.go:83", after := #[{ on := 10, ground := Ground.data }, { on := 18, ground := Ground.data }, { on := 8, ground := Ground.guard }], guard := some (8, false) }) (v := ?v19) rfl (by kernel_rfl) (by kernel_rfl) (by kernel_rfl) (fun _ _ _ h => h) (Or.inl ⟨by rfl, ?h19⟩) (by assumption) ?r19
            case h19 => (intro w hSw; (try dsimp only at hSw); go_simp; try with_reducible rfl)
            try simp only [Act.put, List.setIfInBounds_toArray, List.set_cons_zero, List.set_cons_succ]
            refine wpAnyH_take (i := 20) (oi := { dst := some 121, op := Op.pick (Operand.tmp 109) (Operand.const (Value.bool true)) (Operand.tmp 120), type := 4, pos := "law.go:83", after := #[{ on := 8, ground := Ground.data }, { on := 19, ground := Ground.data }], guard := none }) (v := ?v20) rfl (by kernel_rfl) (by kernel_rfl) (by kernel_rfl) (fun _ _ _ h => h) (Or.inl ⟨by rfl, ?h20⟩) (by assumption) ?r20
            case h20 => (intro w hSw; (try dsimp only at hSw); go_simp; try with_reducible rfl)
            try simp only [Act.put, List.setIfInBounds_toArray, List.set_cons_zero, List.set_cons_succ]
            refine wpAnyH_done (by kernel_rfl) ?_ _
            go_wp2
            go_roundg (l.length - (j + 1))
            case measure => omega
            case rel => exact ⟨j + 1, by omega, by go_num, Lib.hid hJ6⟩
          · have hjz : ¬ (j : Int) < (l.length : Int) := by omega
            have hfin := Lib.hid (HW.out.trans (HB.out.mono HW.out.size))
            go_wp2
            go_ret
            exact ⟨rfl, hfin.out⟩
      | true =>
        obtain rfl : ns = false := by rw [← hns]; rfl
        clear hns
        have hle := HD.out.most rfl
        have hlez : ¬ (l2 : Int) > most := by omega
        have hlez2 : ¬ most < (l2 : Int) := by omega
        have CD := Lib.hid (fun W hW => on3 (W3 := W3) (HD.out.chk rfl W (HT.out W hW)) hW)
        have CR := Lib.hid (fun W hW (t : ByteArray) ht => on3 (W3 := W3) (HD.out.run rfl W (HT.out W hW) t ht) hW)
        clear HD hle
        go_upto_region 7 with fail
        rw [HW3.out]
        go_wp2
        go_region_held3 (fun w' => w'.cell? ⟨w3.heap.size, 0, none⟩ = some (.slice a1 l1 c1) ∧ w'.cell? ⟨w3.heap.size, 1, none⟩ = some (.slice a2 l2 c2) ∧ w'.cell? ⟨w3.heap.size, 2, none⟩ = some (.slice a3 l3 c3)) (first | exact K3.out _ (by assumption))
          (first
          | (go_at_call 22; refine (CF.out _ (by assumption)).mono ?_; rintro e w6 ⟨rfl, hJ6⟩)
          | (go_at_call 23; refine (CS.out _ (by assumption)).mono ?_; rintro e w7 ⟨rfl, hJ7⟩)
          | (go_at_call 14; refine (CD.out _ (by assumption)).mono ?_; rintro e w8 ⟨rfl, hJ8⟩))
        go_wp2
        go_loopg [13] l.length (fun gk s13 wr => ∃ j : Nat, j + gk = l.length ∧ s13 = .int .i64 j ∧ Hid (Below W3.heap.size W3 wr))
        case atStart => exact ⟨0, by omega, rfl, Lib.hid (by assumption)⟩
        case round =>
          obtain ⟨j, hjg, rfl, HB⟩ := hrel
          by_cases hj : j < l.length
          · have hjz : (j : Int) < (l.length : Int) := by omega
            obtain ⟨bs, off, ea, hx2, hc⟩ := HCELL.out j hj
            have HXC := Lib.hid hc
            have k1 := hc wr HB.out
            obtain ⟨x, hxe⟩ : ∃ x, l[j] = x := ⟨_, rfl⟩
            rw [hxe] at HXC k1 hx2
            subst ea
            have hx1 : x.size ≤ 1000000 := by omega
            have CG1 := Lib.hid (fun W hW => on3 (W3 := W3) (CG.out W x hx1) hW)
            have CM1 := Lib.hid (fun W hW => CM.out W hW x hx1)
            have CR1 := Lib.hid (fun W hW => CR.out W hW x hx1)
            obtain ⟨m, hm⟩ : ∃ m, mt f p.data.toList x.data.toList = m := ⟨_, rfl⟩
            rw [hm] at CG1 CM1 CR1
            clear hm hc hxe hx2 hx1
            go_wp2_with fail
            refine (CG1.out _ HB.out).mono ?_
            rintro e w5 ⟨rfl, hJ5⟩
            have hJd : Below W3.heap.size W3 w5.drew := hJ5.drew
            have c5 := HXC.out w5.drew hJd
            go_wp2
            go_region_held3 (fun w' => w'.cell? ⟨bs, off + j, none⟩ = some (.string x) ∧ w'.cell? ⟨w3.heap.size, 0, none⟩ = some (.slice a1 l1 c1) ∧ w'.cell? ⟨w3.heap.size, 1, none⟩ = some (.slice a2 l2 c2) ∧ w'.cell? ⟨w3.heap.size, 2, none⟩ = some (.slice a3 l3 c3)) (first | exact ⟨HXC.out _ (by assumption), K3.out _ (by assumption)⟩)
              (first
              | (go_at_call 25; refine (CM1.out _ (by assumption)).mono ?_; rintro e w6 ⟨rfl, hJ6⟩)
              | (go_at_call 16; refine (CR1.out _ (by assumption)).mono ?_; rintro e w7 ⟨rfl, hJ7⟩))
            all_goals
              go_wp2
              go_roundg (l.length - (j + 1))
              case measure => omega
              case rel => exact ⟨j + 1, by omega, by go_num, Lib.hid (by assumption)⟩
          · have hjz : ¬ (j : Int) < (l.length : Int) := by omega
            have hfin := Lib.hid (HW.out.trans (HB.out.mono HW.out.size))
            go_wp2
            go_ret
            exact ⟨rfl, hfin.out⟩
    · go_wp2_with fail
      refine (CB.out _).mono ?_
      rintro e w3 ⟨⟨_, _, _, _, hlb, _⟩ | ⟨_, rfl⟩, hb3⟩
      · exact absurd hlb hck
      · have hfin := Lib.hid (hb0.trans ((hb2.trans (hb3.mono hb2.size)).mono hb0.size))
        obtain ⟨c, hcc⟩ : ∃ c, checkN p.size = c := ⟨_, rfl⟩
        have hc24 : c = 2 ∨ c = 4 := by
          rw [hcc] at hck
          unfold checkN at hcc
          split at hcc
          · exact .inl hcc.symm
          · split at hcc
            · exact .inr hcc.symm
            · exact absurd hcc.symm hck
        rw [hcc] at CK
        rw [hcc]
        clear hb0 hb2 hb3 CN CB C0 CL HS HX CG hck hcc
        rcases hc24 with rfl | rfl
        · go_wp2_with (go_at_call 21; refine (CK.out _).mono ?_; rintro e w' ⟨rfl, rfl⟩)
          go_ret
          exact ⟨rfl, hfin.out.alloc hfin.out.size _⟩
        · go_wp2_with (go_at_call 21; refine (CK.out _).mono ?_; rintro e w' ⟨rfl, rfl⟩)
          go_ret
          exact ⟨rfl, hfin.out.alloc hfin.out.size _⟩
    · go_wp2_with fail
      refine (CB.out _).mono ?_
      rintro e w3 ⟨⟨n, h1, h2, h3, hlb, _⟩ | ⟨_, rfl⟩, hb3⟩
      · exact absurd ⟨by omega, h3⟩ hmo
      · have hfin := Lib.hid (hb0.trans ((hb2.trans (hb3.mono hb2.size)).mono hb0.size))
        rw [hck] at CK
        clear hb0 hb2 hb3 CN CB C0 CL HS HX CG hck
        by_cases hlt : most < 1
        · clear hmo
          go_wp2_with (go_at_call 21; refine (CK.out _).mono ?_; rintro e w' ⟨rfl, rfl⟩)
          go_ret
          exact ⟨rfl, hfin.out.alloc hfin.out.size _⟩
        · have hgt : (256 : Int) < most := by
            rcases Classical.not_and_iff_not_or_not.1 hmo with h | h <;> omega
          clear hmo
          go_wp2_with (go_at_call 21; refine (CK.out _).mono ?_; rintro e w' ⟨rfl, rfl⟩)
          go_ret
          exact ⟨rfl, hfin.out.alloc hfin.out.size _⟩
  · rw [Bool.not_eq_true] at hL
    have C0 := Lib.hid (fun w => lives_any w)
    have CL : Hid (∀ W, Below w.heap.size w W → Calls Tryz.prog 9 #[.string p, v] W fun e w' => e = .returned (.bool false) ∧ w' = W) := Lib.hid (fun W hW => by
      have := light_list p (hS.below hW) (by unfold maxLen at hn; omega)
      rwa [hL] at this)
    obtain ⟨va, vc, rfl, _⟩ := hS
    clear hL hn
    go_enter Tryz.func4, Tryz.ntmps4
    go_wp2_with fail
    refine (C0.out _).mono ?_
    rintro e w0 ⟨rfl, hb0⟩
    go_wp2_with fail
    refine (CL.out _ hb0).mono ?_
    rintro e w0' ⟨rfl, rfl⟩
    go_wp2
    go_ret
    exact ⟨rfl, hb0⟩
end Go.Proofs.YtnpgmekgmelamaaGreat
