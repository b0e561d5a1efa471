/-
  What is proved: what dfa.Build returns on globs; taken that slices.Sort sorts. What lay in memory before stands as it stood.
-/
import Derived.Test.YtnpgmekgmelamaaGreatDfApi
namespace Go.Proofs.YtnpgmekgmelamaaGreat
open Go.RowKit Go.Shelf Go.Maps

/-- The classes as a list. -/
def clsI (cl : Nat → Nat) : List Int := (List.range 256).map fun i => (cl i : Int)
theorem clsI_len (cl : Nat → Nat) : (clsI cl).length = 256 := by simp [clsI]
theorem clsI_at (cl : Nat → Nat) {i : Nat} (hi : i < 256) : (clsI cl).getD i 0 = (cl i : Int) := by
  unfold clsI
  rw [List.getD_eq_getElem?_getD, List.getElem?_map, List.getElem?_range hi]; rfl

/-- What Build returns, of a glob with B, where the bound is good. -/
def DfaPost (w : World) (B SA : List UInt8) (cl : Nat → Nat) (most : Nat) (e : Ending) (w' : World) : Prop :=
  ((∃ n, Closed B SA n ∧ n ≤ most ∧ ∃ cv nv av, e = .returned (.tuple #[.agg #[cv, nv, av], .bool true]) ∧ DfaR w' cv nv av (clsI cl) (tabRows B SA n) (tabAccs B SA n)) ∨ ((∀ n, n ≤ most → ¬ Closed B SA n) ∧ e = .returned (.tuple #[.agg #[.slice none 0 0, .slice none 0 0, .slice none 0 0], .bool false]))) ∧ Below w.heap.size w w'

theorem put3 {W : World} {D : Nat} {x0 x1 x2 : Value} {T : TypeId} (h : W.heap[D]? = some (.cells #[x0, x1, x2] T (0, 0))) (a b c : Value) :
    (((W.setCell ⟨D, 0, none⟩ a).setCell ⟨D, 1, none⟩ b).setCell ⟨D, 2, none⟩ c).cell? ⟨D, 0, none⟩ = some a ∧ (((W.setCell ⟨D, 0, none⟩ a).setCell ⟨D, 1, none⟩ b).setCell ⟨D, 2, none⟩ c).cell? ⟨D, 1, none⟩ = some b ∧ (((W.setCell ⟨D, 0, none⟩ a).setCell ⟨D, 1, none⟩ b).setCell ⟨D, 2, none⟩ c).cell? ⟨D, 2, none⟩ = some c := by
  have h3 := obj_set (i := 2) c (obj_set (i := 1) b (obj_set (i := 0) a h))
  refine ⟨?_, ?_, ?_⟩
  · rw [cell_heap h3]; rfl
  · rw [cell_heap h3]; rfl
  · rw [cell_heap h3]; rfl
theorem put3_below {w W : World} {D : Nat} (h : Below w.heap.size w W) (hD : w.heap.size ≤ D) (a b c : Value) : Below w.heap.size w (((W.setCell ⟨D, 0, none⟩ a).setCell ⟨D, 1, none⟩ b).setCell ⟨D, 2, none⟩ c) :=
  ((h.setCell (p := ⟨D, 0, none⟩) hD a).setCell (p := ⟨D, 1, none⟩) hD b).setCell (p := ⟨D, 2, none⟩) hD c

theorem put3_other {W : World} {D k : Nat} (hk : k ≠ D) (a b c : Value) : (((W.setCell ⟨D, 0, none⟩ a).setCell ⟨D, 1, none⟩ b).setCell ⟨D, 2, none⟩ c).heap[k]? = W.heap[k]? := by
  rw [Below.heap_setCell _ _ _ _ hk, Below.heap_setCell _ _ _ _ hk, Below.heap_setCell _ _ _ _ hk]
theorem put3_size {W : World} {D : Nat} (a b c : Value) : (((W.setCell ⟨D, 0, none⟩ a).setCell ⟨D, 1, none⟩ b).setCell ⟨D, 2, none⟩ c).heap.size = W.heap.size := by simp [World.setCell]
/-- A block that holds three slices is no list's of numbers, nor rows', nor bools'. -/
theorem ints_away {W W' : World} {D : Nat} {a1 a2 a3 : Option Addr} {n1 c1 n2 c2 n3 c3 : Nat} (hD : W.heap[D]? = some (.cells #[.slice a1 n1 c1, .slice a2 n2 c2, .slice a3 n3 c3] 26 (0, 0))) (hk : ∀ k, k ≠ D → W'.heap[k]? = W.heap[k]?) (hz : W'.heap.size = W.heap.size) {v : Value} {zs : List Int} (h : Ints W v zs) : Ints W' v zs := by
  rcases h with h | h | ⟨b, off, cap, e, hlt, hc⟩
  · exact .inl h
  · exact .inr (.inl h)
  · refine .inr (.inr ⟨b, off, cap, e, by omega, fun j hj => ?_⟩)
    have hne : b ≠ D := fun e2 => by
      subst e2
      have := hc j hj
      rw [cell_heap hD] at this
      generalize off + j = o at this
      match o, this with
      | 0, h => simp at h
      | 1, h => simp at h
      | 2, h => simp at h
      | o + 3, h => simp at h
    rw [World.cell?_of_block (w := W) (hk b hne)]; exact hc j hj
theorem row_away {W W' : World} {D : Nat} {cs : Array Value} (hD : W.heap[D]? = some (.cells cs 26 (0, 0))) (hk : ∀ k, k ≠ D → W'.heap[k]? = W.heap[k]?) {base n : Nat} {t : TypeId} {v : Value} {xs : List Value} (ht : t ≠ 26) (h : W.ownsRow base t 1 v n xs) : W'.ownsRow base t 1 v n xs := by
  refine row_kept h (fun k e => hk k (fun e2 => ?_))
  subst e2
  rcases h.2 with ⟨h1, _⟩ | ⟨g, cap, cur, h1, _, hg, _⟩
  · rw [h1] at e; cases e
  · rw [h1] at e
    have : g = k := by injection e
    subst this
    rw [hD] at hg
    injection hg with hg
    injection hg with _ hg _
    exact ht hg.symm
theorem made_away {W W' : World} {D : Nat} {a1 a2 a3 : Option Addr} {n1 c1 n2 c2 n3 c3 : Nat} (hD : W.heap[D]? = some (.cells #[.slice a1 n1 c1, .slice a2 n2 c2, .slice a3 n3 c3] 26 (0, 0))) (hk : ∀ k, k ≠ D → W'.heap[k]? = W.heap[k]?) (hz : W'.heap.size = W.heap.size) {tb : Nat} {cl : Nat → Nat} {rows : List (List Int)} {accs : List Bool} {nv av : Value} (h : Made W tb cl rows accs nv av) : RowsR W' nv rows ∧ BoolsR W' av accs := by
  obtain ⟨base, rvals, h1, h2⟩ := h.rows
  obtain ⟨base2, h3⟩ := h.accs
  have r1 : RowsAt W' nv rows := ⟨base, rvals, row_away hD hk (by decide) h1, fun j x hx => ints_away hD hk hz (h2 j x hx)⟩
  have r2 : BoolsAt W' av accs := ⟨base2, row_away hD hk (by decide) h3⟩
  exact ⟨r1.reads, r2.reads⟩

set_option maxRecDepth 100000 in
set_option maxHeartbeats 1000000 in
theorem make_any (p : ByteArray) (f : Bool) (most : Nat) (w : World) (hp : checkN p.size = 0) (HS : SortsN ((cntL f (normP p)).filter fun c => !wildC c).length) (h1 : 1 ≤ most) (h2 : most ≤ 256) :
    Calls Tryz.prog 11 #[.string p, .bool f, .int .i64 (most : Int)] w (DfaPost w (cntL f (normP p)) (sampL (cntL f (normP p))) (clsTo f (sampL (cntL f (normP p))) 256) most) := by
  have hp2 := (check_pos hp).2
  have hPl : (normP p).length ≤ 255 := Nat.le_trans (normP_len p) hp2
  have hns := normP_no p
  have C1 := Lib.hid (fun w => new_any p f w hp)
  have CM : Hid (∀ w, Calls Tryz.prog 45 #[.int .i64 (most : Int)] w fun e w' => e = .returned (.bool true) ∧ w' = w) := Lib.hid (fun w => by
    have := isMost_any (most : Int) w
    rwa [show (decide ((1 : Int) ≤ (most : Int)) && decide ((most : Int) ≤ 256)) = true by simp; omega] at this)
  have CB : Hid (∀ W nb, NfaAt W nb (normP p) f → Calls Tryz.prog 46 #[.pointer (some ⟨nb, 0, none⟩), .int .i64 (most : Int)] W (BuildPost W (cntL f (normP p)) (sampL (cntL f (normP p))) (clsTo f (sampL (cntL f (normP p))) 256) most)) := Lib.hid (fun W nb h => build_any h hPl hns HS most h1 h2)
  obtain ⟨P, hP⟩ : ∃ P, normP p = P := ⟨_, rfl⟩
  rw [hP] at C1 CB
  rw [hP]
  obtain ⟨B, hB⟩ : ∃ B, cntL f P = B := ⟨_, rfl⟩
  rw [hB] at CB
  rw [hB]
  obtain ⟨SA, hSA⟩ : ∃ SA, sampL B = SA := ⟨_, rfl⟩
  rw [hSA] at CB
  rw [hSA]
  obtain ⟨cl, hcl⟩ : ∃ cl, clsTo f SA 256 = cl := ⟨_, rfl⟩
  rw [hcl] at CB
  rw [hcl]
  clear HS hP hB hSA hcl hns hPl hp
  go_enter Tryz.func11, Tryz.ntmps11
  go_wp2_with fail
  refine (C1.out _).mono ?_
  rintro e w1 ⟨nb, rfl, hnb, ho1, hb1⟩
  go_wp2_with (go_at_call 45; refine (CM.out _).mono ?_; rintro e w2 ⟨rfl, rfl⟩)
  refine (CB.out _ _ ho1).mono ?_
  rintro e w3 ⟨hcase, hb3⟩
  have hz0 : (w.alloc (.cells #[.slice none 0 0, .slice none 0 0, .slice none 0 0] 26)).heap.size = w.heap.size + 1 := by simp
  have hz1 := hb1.size
  have hD3 : w3.heap[w.heap.size]? = some (.cells #[.slice none 0 0, .slice none 0 0, .slice none 0 0] 26 (0, 0)) := by
    rw [hb3.block _ (by omega), hb1.block _ (by omega)]
    exact World.alloc_heap_new w _
  have hbw : Below w.heap.size w w3 := ((Below.refl _ w).alloc (Nat.le_refl _) _).trans ((hb1.mono (by omega)).trans (hb3.mono (by omega)))
  have d0 := cell_heap hD3 0
  have d1 := cell_heap hD3 1
  have d2 := cell_heap hD3 2
  have f0 := frozen_heap hD3 0
  have f1 := frozen_heap hD3 1
  have f2 := frozen_heap hD3 2
  simp only [List.getElem?_toArray, List.getElem?_cons_zero, List.getElem?_cons_succ] at d0 d1 d2
  rcases hcase with ⟨n, tb, nv, av, hC, hn, rfl, htb, hM, _⟩ | ⟨hnc, rfl⟩
  · replace hM := Lib.hid hM
    replace hC := Lib.hid hC
    have htn : tb ≠ w.heap.size := by omega
    obtain ⟨na, nc, hnv⟩ : ∃ a c, nv = .slice a (tabRows B SA n).length c := by obtain ⟨_, _, ho, _⟩ := hM.out.rows; exact row_slice ho
    obtain ⟨aa, ac, hav⟩ : ∃ a c, av = .slice a (tabAccs B SA n).length c := by obtain ⟨_, ho⟩ := hM.out.accs; exact row_slice ho
    obtain ⟨rn, hrn⟩ : ∃ rn, (tabRows B SA n).length = rn := ⟨_, rfl⟩
    obtain ⟨an, han⟩ : ∃ an, (tabAccs B SA n).length = an := ⟨_, rfl⟩
    rw [hrn] at hnv
    rw [han] at hav
    subst hnv hav
    have tc1 := hM.out.tab.c1
    have tc2 := hM.out.tab.c2
    have CC : Hid (∀ W, Below w3.heap.size w3 W → Calls Tryz.prog 47 #[.slice (some ⟨tb, 0, none⟩) 256 256] W fun e w' => ∃ v', e = .returned v' ∧ (∃ a c, v' = .slice a 256 c) ∧ Hid (Ints w' v' (clsI cl)) ∧ Below w3.heap.size w3 w') := Lib.hid (fun W hW => by
      have htW := hM.out.tab.same (hW.block tb hM.out.tab.lt)
      have := Tryz.slices_Clone_int tb 0 256 256 (clsI cl) W (by rw [clsI_len]; exact Nat.le_refl _) (by decide) (fun j hj => by
        rw [clsI_len] at hj
        rw [Nat.zero_add, htW.cls hj, clsI_at cl hj])
      rw [List.take_of_length_le (by rw [clsI_len]; exact Nat.le_refl _)] at this
      refine this.mono ?_
      rintro e w' ⟨v', rfl, ho, _, hb⟩
      obtain ⟨a, c, e⟩ := row_slice ho
      refine ⟨v', rfl, ⟨a, c, e⟩, Lib.hid (Ints.of_own (k := 256) ho), hW.trans (hb.mono hW.size)⟩)
    have hD5 : Hid (∀ W, Below w3.heap.size w3 W → W.heap[w.heap.size]? = some (.cells #[.slice none 0 0, .slice none 0 0, .slice none 0 0] 26 (0, 0))) := Lib.hid (fun W hW => (hW.block _ (by have := hb3.size; omega)).trans hD3)
    have RA : Hid (∀ W, Below w3.heap.size w3 W → W.cell? ⟨tb, 256, none⟩ = some (.slice na rn nc) ∧ W.cell? ⟨tb, 257, none⟩ = some (.slice aa an ac)) := Lib.hid (fun W hW => by
      have h := hM.out.tab.same (hW.block tb hM.out.tab.lt)
      exact ⟨h.c1, h.c2⟩)
    have RB : Hid (∀ W x y z, Below w3.heap.size w3 W → (((W.setCell ⟨w.heap.size, 0, none⟩ x).setCell ⟨w.heap.size, 1, none⟩ y).setCell ⟨w.heap.size, 2, none⟩ z).cell? ⟨tb, 256, none⟩ = some (.slice na rn nc) ∧ (((W.setCell ⟨w.heap.size, 0, none⟩ x).setCell ⟨w.heap.size, 1, none⟩ y).setCell ⟨w.heap.size, 2, none⟩ z).cell? ⟨tb, 257, none⟩ = some (.slice aa an ac)) := Lib.hid (fun W x y z hW => by
      have h := hM.out.tab.same (hW.block tb hM.out.tab.lt)
      have h2 := h.same (W' := ((W.setCell ⟨w.heap.size, 0, none⟩ x).setCell ⟨w.heap.size, 1, none⟩ y).setCell ⟨w.heap.size, 2, none⟩ z) (by rw [Below.heap_setCell _ _ _ _ htn, Below.heap_setCell _ _ _ _ htn, Below.heap_setCell _ _ _ _ htn])
      exact ⟨h2.c1, h2.c2⟩)
    have hdo : Hid (∀ W, Below w3.heap.size w3 W → (W.cell? ⟨w.heap.size, 0, none⟩ = some (.slice none 0 0) ∧ W.frozen? ⟨w.heap.size, 0, none⟩ = false) ∧ (W.cell? ⟨w.heap.size, 1, none⟩ = some (.slice none 0 0) ∧ W.frozen? ⟨w.heap.size, 1, none⟩ = false) ∧ (W.cell? ⟨w.heap.size, 2, none⟩ = some (.slice none 0 0) ∧ W.frozen? ⟨w.heap.size, 2, none⟩ = false)) := Lib.hid (fun W hW => by
      have h := hD5.out W hW
      exact ⟨⟨by rw [cell_heap h]; rfl, frozen_heap h 0⟩, ⟨by rw [cell_heap h]; rfl, frozen_heap h 1⟩, ⟨by rw [cell_heap h]; rfl, frozen_heap h 2⟩⟩)
    have hJ0 : Below w3.heap.size w3 w3.drew := (Below.refl _ _).drew
    replace hb3 := Lib.hid hb3
    replace hbw := Lib.hid hbw
    clear hb1 ho1 C1 CM CB hD3
    go_wp2_with fail
    go_region_held3 (fun w' => w'.cell? ⟨tb, 256, none⟩ = some (.slice na rn nc) ∧ w'.cell? ⟨tb, 257, none⟩ = some (.slice aa an ac))
      (first | exact RA.out _ (by assumption) | exact RB.out _ _ _ _ (by assumption))
      (first
        | (go_at_call 47; refine (CC.out _ (by assumption)).mono ?_; rintro e w5 ⟨v5, rfl, ⟨a5, c5, rfl⟩, hi5, hb5⟩; obtain ⟨q0, q1, q2⟩ := hdo.out w5 hb5))
    all_goals
      obtain ⟨e0, e1, e2⟩ := put3 (hD5.out w5 hb5) (.slice a5 256 c5) (.slice na rn nc) (.slice aa an ac)
      have hfin : Hid (DfaR (((w5.setCell ⟨w.heap.size, 0, none⟩ (.slice a5 256 c5)).setCell ⟨w.heap.size, 1, none⟩ (.slice na rn nc)).setCell ⟨w.heap.size, 2, none⟩ (.slice aa an ac)) (.slice a5 256 c5) (.slice na rn nc) (.slice aa an ac) (clsI cl) (tabRows B SA n) (tabAccs B SA n)) := Lib.hid (by
        have hm5 := hM.out.below hb5
        have hk : ∀ k, k ≠ w.heap.size → (((w5.setCell ⟨w.heap.size, 0, none⟩ (.slice a5 256 c5)).setCell ⟨w.heap.size, 1, none⟩ (.slice na rn nc)).setCell ⟨w.heap.size, 2, none⟩ (.slice aa an ac)).heap[k]? = w5.heap[k]? := fun k hk => put3_other hk _ _ _
        obtain ⟨r1, r2⟩ := made_away (hD5.out w5 hb5) hk (put3_size _ _ _) hm5
        exact ⟨ints_away (hD5.out w5 hb5) hk (put3_size _ _ _) hi5.out, r1, r2⟩)
      have hbf := Lib.hid (put3_below (hbw.out.trans (hb5.mono hbw.out.size)) (Nat.le_refl _) (.slice a5 256 c5) (.slice na rn nc) (.slice aa an ac))
      go_wp2
      refine bodyPost_ret (v := .tuple #[.agg #[.slice a5 256 c5, .slice na rn nc, .slice aa an ac], .bool true]) (by simp [results, Tryz.results11, go_sem, e0, e1, e2]) rfl ?_
      exact ⟨.inl ⟨n, hC.out, hn, _, _, _, rfl, hfin.out⟩, hbf.out⟩
  · replace hnc := Lib.hid hnc
    obtain ⟨e0, e1, e2⟩ := put3 hD3 (.slice none 0 0) (.slice none 0 0) (.slice none 0 0)
    replace hbw := Lib.hid hbw
    go_wp2
    refine bodyPost_ret (v := .tuple #[.agg #[.slice none 0 0, .slice none 0 0, .slice none 0 0], .bool false]) (by simp [results, Tryz.results11, go_sem, e0, e1, e2]) rfl ?_
    exact ⟨.inr ⟨hnc.out, rfl⟩, put3_below hbw.out (Nat.le_refl _) _ _ _⟩
end Go.Proofs.YtnpgmekgmelamaaGreat
