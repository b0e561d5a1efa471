/-
  What is proved: what dfa.New returns on globs, and what an automaton without a table answers; taken that slices.Sort sorts. What lay in memory before stands as it stood.
-/
import Derived.Test.YtnpgmekgmelamaaGreatDfMake
import Derived.Handy
namespace Go.Proofs.YtnpgmekgmelamaaGreat
open Go.RowKit Go.Shelf Go.Maps

/-- An object of New at b, with m to match. -/
def AutoAt (W : World) (b : Nat) (m : Value) : Prop := W.heap[b]? = some (.cells #[.pointer (some ⟨b, 0, none⟩), m] 101 (0, 0))
theorem AutoAt.c0 {W : World} {b : Nat} {m : Value} (h : AutoAt W b m) : W.cell? ⟨b, 0, none⟩ = some (.pointer (some ⟨b, 0, none⟩)) := by simp [World.cell?, show W.heap[b]? = _ from h]
theorem AutoAt.c1 {W : World} {b : Nat} {m : Value} (h : AutoAt W b m) : W.cell? ⟨b, 1, none⟩ = some m := by simp [World.cell?, show W.heap[b]? = _ from h]
theorem AutoAt.lt {W : World} {b : Nat} {m : Value} (h : AutoAt W b m) : b < W.heap.size := (Array.getElem?_eq_some_iff.1 (show W.heap[b]? = _ from h)).1
theorem AutoAt.below {W W' : World} {b n : Nat} {m : Value} (h : AutoAt W b m) (hb : Below n W W') (hn : b < n) : AutoAt W' b m := (hb.block b hn).trans h

theorem info_auto : (Tryz.prog.info? 101).isSome = true := by kernel_rfl
theorem same_auto (a : Addr) (w : World) : (binOp .eql 39 (.pointer (some a)) (.pointer (some a))).run Tryz.prog w = .ok (.bool true) w := by
  obtain ⟨j, hj⟩ := Option.isSome_iff_exists.1 info_auto
  exact run_eql_ptr_same w a Tryz.underlying39 hj

theorem amade_any {w : World} {b : Nat} {m : Value} (h : AutoAt w b m) :
    Calls Tryz.prog 63 #[.pointer (some ⟨b, 0, none⟩)] w fun e w' => e = .returned (.bool true) ∧ w' = w := by
  have c0 := h.c0
  have hpe := fun w => same_auto ⟨b, 0, none⟩ w
  go_enter Tryz.func63, Tryz.ntmps63
  go_wp2
  go_ret
  exact ⟨rfl, rfl⟩

/-- What stands for a table that is too great. -/
def outV (nb : Nat) : Value := .iface 97 (.agg #[.pointer (some ⟨nb, 0, none⟩)])

theorem wfull_any (nb : Nat) (w : World) :
    Calls Tryz.prog 199 #[.agg #[.pointer (some ⟨nb, 0, none⟩)]] w fun e w' => e = .returned (.bool true) ∧ Below w.heap.size w w' := by
  go_enter Tryz.func199, Tryz.ntmps199
  go_wp2
  go_ret
  exact ⟨rfl, (Below.refl _ _).alloc (Nat.le_refl _) _⟩
theorem wstates_any (nb : Nat) (w : World) :
    Calls Tryz.prog 201 #[.agg #[.pointer (some ⟨nb, 0, none⟩)]] w fun e w' => e = .returned (.int .i64 0) ∧ Below w.heap.size w w' := by
  go_enter Tryz.func201, Tryz.ntmps201
  go_wp2
  go_ret
  exact ⟨rfl, (Below.refl _ _).alloc (Nat.le_refl _) _⟩
theorem wmatch_any {w : World} {nb : Nat} {P : List UInt8} {f : Bool} (ho : NfaAt w nb P f) (hP : P.length ≤ 900000) (hns : noSt P) (t : ByteArray) (ht : t.size ≤ 1000000) :
    Calls Tryz.prog 200 #[.agg #[.pointer (some ⟨nb, 0, none⟩)], .string t] w fun e w' => e = .returned (.bool (mt f P t.data.toList)) ∧ Below w.heap.size w w' := by
  have hlt := ho.lt
  obtain ⟨R, hR⟩ : ∃ R, mt f P t.data.toList = R := ⟨_, rfl⟩
  have C : Hid (∀ W, Below w.heap.size w W → Calls Tryz.prog 202 #[.pointer (some ⟨nb, 0, none⟩), .string t] W fun e w' => e = .returned (.bool R) ∧ Below w.heap.size w w') := Lib.hid (fun W hb => by
    rw [← hR]
    exact (run_any (ho.below hb hlt) hP hns t ht).mono fun _ _ ⟨h1, h2⟩ => ⟨h1, hb.trans (h2.mono hb.size)⟩)
  rw [hR]
  clear ho hns hR
  go_enter Tryz.func200, Tryz.ntmps200
  go_wp2_with (go_at_call 202; refine (C.out _ ((Below.refl _ _).alloc (Nat.le_refl _) _)).mono ?_; rintro e w2 ⟨rfl, hb2⟩)
  go_ret
  exact ⟨rfl, hb2⟩

set_option maxHeartbeats 1000000 in
theorem ofull_any {w : World} {b nb : Nat} (h : AutoAt w b (outV nb)) :
    Calls Tryz.prog 22 #[.pointer (some ⟨b, 0, none⟩)] w fun e w' => e = .returned (.bool true) ∧ Below w.heap.size w w' := by
  have c1 := h.c1
  unfold outV at c1
  have C := Lib.hid (amade_any h)
  have C2 := Lib.hid (wfull_any nb w)
  clear h
  go_enter Tryz.func22, Tryz.ntmps22
  go_wp2_with (first
    | (go_at_call 63; refine C.out.mono ?_; rintro e w' ⟨rfl, rfl⟩)
    | (go_at_call 199; refine C2.out.mono ?_; rintro e w' ⟨rfl, hb⟩))
  go_ret
  exact ⟨rfl, hb⟩
set_option maxHeartbeats 1000000 in
theorem ostates_any {w : World} {b nb : Nat} (h : AutoAt w b (outV nb)) :
    Calls Tryz.prog 23 #[.pointer (some ⟨b, 0, none⟩)] w fun e w' => e = .returned (.int .i64 0) ∧ Below w.heap.size w w' := by
  have c1 := h.c1
  unfold outV at c1
  have C := Lib.hid (amade_any h)
  have C2 := Lib.hid (wstates_any nb w)
  clear h
  go_enter Tryz.func23, Tryz.ntmps23
  go_wp2_with (first
    | (go_at_call 63; refine C.out.mono ?_; rintro e w' ⟨rfl, rfl⟩)
    | (go_at_call 201; refine C2.out.mono ?_; rintro e w' ⟨rfl, hb⟩))
  go_ret
  exact ⟨rfl, hb⟩
set_option maxHeartbeats 1000000 in
theorem omatch_any {w : World} {b nb : Nat} {P : List UInt8} {f : Bool} (h : AutoAt w b (outV nb)) (ho : NfaAt w nb P f) (hP : P.length ≤ 900000) (hns : noSt P) (t : ByteArray) (ht : t.size ≤ 1000000) :
    Calls Tryz.prog 25 #[.pointer (some ⟨b, 0, none⟩), .string t] w fun e w' => e = .returned (.bool (mt f P t.data.toList)) ∧ Below w.heap.size w w' := by
  have c1 := h.c1
  unfold outV at c1
  have C := Lib.hid (amade_any h)
  have C2 := Lib.hid (wmatch_any ho hP hns t ht)
  obtain ⟨R, hR⟩ : ∃ R, mt f P t.data.toList = R := ⟨_, rfl⟩
  rw [hR] at C2
  rw [hR]
  clear h ho hns hR
  go_enter Tryz.func25, Tryz.ntmps25
  go_wp2_with (first
    | (go_at_call 63; refine C.out.mono ?_; rintro e w' ⟨rfl, rfl⟩)
    | (go_at_call 200; refine C2.out.mono ?_; rintro e w' ⟨rfl, hb⟩))
  go_ret
  exact ⟨rfl, hb⟩

theorem ints_away2 {W W' : World} {D : Nat} {x : Option Addr} {t : TypeId} {u : Value} {T : TypeId} (hD : W.heap[D]? = some (.cells #[.pointer x, .iface t u] T (0, 0))) (hk : ∀ k, k ≠ D → W'.heap[k]? = W.heap[k]?) (hz : W'.heap.size = W.heap.size) {v : Value} {zs : List Int} (h : Ints W v zs) : Ints W' v zs := by
  rcases h with h | h | ⟨b, off, cap, e, hlt, hc⟩
  · exact .inl h
  · exact .inr (.inl h)
  · refine .inr (.inr ⟨b, off, cap, e, by omega, fun j hj => ?_⟩)
    have hne : b ≠ D := fun e2 => by
      subst e2
      have := hc j hj
      rw [cell_heap hD] at this
      generalize off + j = o at this
      match o, this with
      | 0, h => simp at h
      | 1, h => simp at h
      | o + 2, h => simp at h
    rw [World.cell?_of_block (w := W) (hk b hne)]; exact hc j hj
theorem row_away2 {W W' : World} {D : Nat} {cs : Array Value} (hD : W.heap[D]? = some (.cells cs 101 (0, 0))) (hk : ∀ k, k ≠ D → W'.heap[k]? = W.heap[k]?) {base n : Nat} {t : TypeId} {v : Value} {xs : List Value} (ht : t ≠ 101) (h : W.ownsRow base t 1 v n xs) : W'.ownsRow base t 1 v n xs := by
  refine row_kept h (fun k e => hk k (fun e2 => ?_))
  subst e2
  rcases h.2 with ⟨h1, _⟩ | ⟨g, cap, cur, h1, _, hg, _⟩
  · rw [h1] at e; cases e
  · rw [h1] at e
    have : g = k := by injection e
    subst this
    rw [hD] at hg
    injection hg with hg
    injection hg with _ hg _
    exact ht hg.symm
theorem made_away2 {W W' : World} {D : Nat} {x : Option Addr} {t : TypeId} {u : Value} (hD : W.heap[D]? = some (.cells #[.pointer x, .iface t u] 101 (0, 0))) (hk : ∀ k, k ≠ D → W'.heap[k]? = W.heap[k]?) (hz : W'.heap.size = W.heap.size) {tb : Nat} {cl : Nat → Nat} {rows : List (List Int)} {accs : List Bool} {nv av : Value} (htb : tb ≠ D) (h : Made W tb cl rows accs nv av) : Made W' tb cl rows accs nv av := by
  obtain ⟨base, rvals, h1, h2⟩ := h.rows
  obtain ⟨base2, h3⟩ := h.accs
  exact ⟨h.tab.same (hk tb htb), ⟨base, rvals, row_away2 hD hk (by decide) h1, fun j x hx => ints_away2 hD hk hz (h2 j x hx)⟩, ⟨base2, row_away2 hD hk (by decide) h3⟩⟩

/-! New -/
set_option maxHeartbeats 1000000 in
theorem anew_most (p : ByteArray) (f : Bool) (most : Int) (w : World) (hp : checkN p.size = 0) (hm : (decide (1 ≤ most) && decide (most ≤ 256)) = false) :
    Calls Tryz.prog 20 #[.string p, .bool f, .int .i64 most] w fun e w' => e = .returned (.tuple #[.pointer none, .int .i64 2]) ∧ Below w.heap.size w w' := by
  have C1 := Lib.hid (fun w => new_any p f w hp)
  have CM : Hid (∀ w, Calls Tryz.prog 45 #[.int .i64 most] w fun e w' => e = .returned (.bool false) ∧ w' = w) := Lib.hid (fun w => by
    have := isMost_any most w
    rwa [hm] at this)
  clear hm hp
  go_enter Tryz.func20, Tryz.ntmps20
  go_wp2_with (first
    | (go_at_call 44; refine (C1.out _).mono ?_; rintro e w1 ⟨nb, rfl, hnb, ho1, hb1⟩)
    | (go_at_call 45; refine (CM.out _).mono ?_; rintro e w2 ⟨rfl, rfl⟩))
  refine bodyPost_ret (v := .tuple #[.pointer none, .int .i64 2]) (by simp [results, Tryz.results20, go_sem]) rfl ?_
  exact ⟨rfl, hb1⟩

/-- What New returns, of a glob with B, where the bound is good. -/
def AutoPost (w : World) (P : List UInt8) (f : Bool) (B SA : List UInt8) (cl : Nat → Nat) (most : Nat) (e : Ending) (w' : World) : Prop :=
  ((∃ n b tb nv av, Closed B SA n ∧ n ≤ most ∧ e = .returned (.tuple #[.pointer (some ⟨b, 0, none⟩), .int .i64 0]) ∧ AutoAt w' b (.iface 75 (.pointer (some ⟨tb, 0, none⟩))) ∧ Made w' tb cl (tabRows B SA n) (tabAccs B SA n) nv av ∧ w.heap.size ≤ b ∧ MadeB w.heap.size w' tb cl (tabRows B SA n) (tabAccs B SA n) nv av) ∨
    (∃ b nb, (∀ n, n ≤ most → ¬ Closed B SA n) ∧ e = .returned (.tuple #[.pointer (some ⟨b, 0, none⟩), .int .i64 0]) ∧ AutoAt w' b (outV nb) ∧ NfaAt w' nb P f ∧ w.heap.size ≤ b ∧ w.heap.size ≤ nb)) ∧ Below w.heap.size w w'

set_option maxHeartbeats 1000000 in
theorem anew_any (p : ByteArray) (f : Bool) (most : Nat) (w : World) (hp : checkN p.size = 0) (HS : SortsN ((cntL f (normP p)).filter fun c => !wildC c).length) (h1 : 1 ≤ most) (h2 : most ≤ 256) :
    Calls Tryz.prog 20 #[.string p, .bool f, .int .i64 (most : Int)] w (AutoPost w (normP p) f (cntL f (normP p)) (sampL (cntL f (normP p))) (clsTo f (sampL (cntL f (normP p))) 256) most) := by
  have hp2 := (check_pos hp).2
  have hPl : (normP p).length ≤ 255 := Nat.le_trans (normP_len p) hp2
  have hns := normP_no p
  have C1 := Lib.hid (fun w => new_any p f w hp)
  have CM : Hid (∀ w, Calls Tryz.prog 45 #[.int .i64 (most : Int)] w fun e w' => e = .returned (.bool true) ∧ w' = w) := Lib.hid (fun w => by
    have := isMost_any (most : Int) w
    rwa [show (decide ((1 : Int) ≤ (most : Int)) && decide ((most : Int) ≤ 256)) = true by simp; omega] at this)
  have CB : Hid (∀ W nb, NfaAt W nb (normP p) f → Calls Tryz.prog 46 #[.pointer (some ⟨nb, 0, none⟩), .int .i64 (most : Int)] W (BuildPost W (cntL f (normP p)) (sampL (cntL f (normP p))) (clsTo f (sampL (cntL f (normP p))) 256) most)) := Lib.hid (fun W nb h => build_any h hPl hns HS most h1 h2)
  obtain ⟨P, hP⟩ : ∃ P, normP p = P := ⟨_, rfl⟩
  rw [hP] at C1 CB
  rw [hP]
  obtain ⟨B, hB⟩ : ∃ B, cntL f P = B := ⟨_, rfl⟩
  rw [hB] at CB
  rw [hB]
  obtain ⟨SA, hSA⟩ : ∃ SA, sampL B = SA := ⟨_, rfl⟩
  rw [hSA] at CB
  rw [hSA]
  obtain ⟨cl, hcl⟩ : ∃ cl, clsTo f SA 256 = cl := ⟨_, rfl⟩
  rw [hcl] at CB
  rw [hcl]
  clear HS hP hB hSA hcl hns hPl hp
  go_enter Tryz.func20, Tryz.ntmps20
  go_wp2_with fail
  refine (C1.out _).mono ?_
  rintro e w1 ⟨nb, rfl, hnb, ho1, hb1⟩
  have hl1 := ho1.lt
  go_wp2_with (go_at_call 45; refine (CM.out _).mono ?_; rintro e w2 ⟨rfl, rfl⟩)
  have hba : Below w2.heap.size w2 (w2.alloc (.cells #[.pointer none, .iface 97 (.agg #[.pointer (some ⟨nb, 0, none⟩)])] 101)) := (Below.refl _ _).alloc (Nat.le_refl _) _
  have hsz : (w2.alloc (.cells #[.pointer none, .iface 97 (.agg #[.pointer (some ⟨nb, 0, none⟩)])] 101)).heap.size = w2.heap.size + 1 := by unfold World.alloc; exact Array.size_push ..
  refine (CB.out _ _ (ho1.below hba hl1)).mono ?_
  rintro e w3 ⟨hcase, hb3⟩
  have hz1 := hb1.size
  have hA3 : w3.heap[w2.heap.size]? = some (.cells #[.pointer none, .iface 97 (.agg #[.pointer (some ⟨nb, 0, none⟩)])] 101 (0, 0)) := (hb3.block _ (by rw [hsz]; exact Nat.lt_succ_self _)).trans (World.alloc_heap_new w2 _)
  have hbw : Below w.heap.size w w3 := (hb1.alloc hz1 _).trans (hb3.mono (by rw [hsz]; omega))
  have d0 := cell_heap hA3 0
  have d1 := cell_heap hA3 1
  have f0 := frozen_heap hA3 0
  have f1 := frozen_heap hA3 1
  have ho3 := Lib.hid ((ho1.below hba hl1).below hb3 (by rw [hsz]; omega))
  simp only [List.getElem?_toArray, List.getElem?_cons_zero, List.getElem?_cons_succ] at d0 d1
  replace hz1 := Lib.hid hz1
  replace hA3 := Lib.hid hA3
  replace hbw := Lib.hid hbw
  rw [hsz] at hcase
  clear hb1 ho1 C1 CM CB hba hsz hb3
  rcases hcase with ⟨n, tb, nv, av, hC, hn, rfl, htb, hM, hMB⟩ | ⟨hnc, rfl⟩
  · replace hM := Lib.hid hM
    replace hMB := Lib.hid hMB
    replace hC := Lib.hid hC
    go_wp2_with fail
    refine bodyPost_ret (v := .tuple #[.pointer (some ⟨w2.heap.size, 0, none⟩), .int .i64 0]) (by simp [results, Tryz.results20, go_sem]) rfl ?_
    have h1 := obj_set (i := 1) (.iface 75 (.pointer (some ⟨tb, 0, none⟩))) hA3.out
    have h2 := obj_set (i := 0) (.pointer (some ⟨w2.heap.size, 0, none⟩)) h1
    have hk : ∀ k, k ≠ w2.heap.size → ((w3.setCell ⟨w2.heap.size, 1, none⟩ (.iface 75 (.pointer (some ⟨tb, 0, none⟩)))).setCell ⟨w2.heap.size, 0, none⟩ (.pointer (some ⟨w2.heap.size, 0, none⟩))).heap[k]? = w3.heap[k]? := fun k hk => by
      rw [Below.heap_setCell _ _ _ _ hk, Below.heap_setCell _ _ _ _ hk]
    exact ⟨.inl ⟨n, _, tb, nv, av, hC.out, hn, rfl, h2, made_away2 hA3.out hk (by simp [World.setCell]) (by omega) hM.out, hz1.out, hMB.out.away (Nat.lt_succ_self _) (Nat.le_succ_of_le hz1.out) (by simp [World.setCell]) hk⟩, (hbw.out.setCell (p := ⟨w2.heap.size, 1, none⟩) hz1.out _).setCell (p := ⟨w2.heap.size, 0, none⟩) hz1.out _⟩
  · replace hnc := Lib.hid hnc
    go_wp2_with fail
    refine bodyPost_ret (v := .tuple #[.pointer (some ⟨w2.heap.size, 0, none⟩), .int .i64 0]) (by simp [results, Tryz.results20, go_sem]) rfl ?_
    have h2 := obj_set (i := 0) (.pointer (some ⟨w2.heap.size, 0, none⟩)) hA3.out
    have hk : nb ≠ w2.heap.size := by omega
    exact ⟨.inr ⟨_, nb, hnc.out, rfl, h2, (Below.heap_setCell _ _ _ _ hk).trans ho3.out, hz1.out, hnb⟩, hbw.out.setCell (p := ⟨w2.heap.size, 0, none⟩) hz1.out _⟩
end Go.Proofs.YtnpgmekgmelamaaGreat
