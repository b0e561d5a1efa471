/-
  What is proved: outlawlaw08.NfaJoins returns true at any glob, bool, two lists and byte: from two lists of states together a step leads to the union of where it leads from each. No conditions.
-/
import Derived.Test.YtinhihdceijfaaaNfNames
namespace Go.Proofs.Ytinhihdceijfaaa
open Go.RowKit Go.Shelf

theorem listF_add {g : Nat → Bool} {x : Nat} (hg : g x = false) : ∀ {n : Nat}, x < n → (listF n (fun j => if j = x then true else g j)).length = (listF n g).length + 1 := by
  intro n
  induction n with
  | zero => intro h; omega
  | succ n ih =>
    intro h
    rw [listF_succ, listF_succ, List.length_append, List.length_append]
    by_cases e : x = n
    · subst e
      rw [listF_congr (h := g) (fun i hi => by rw [if_neg (by omega)]), hg]
      simp
    · rw [ih (by omega), if_neg (show ¬ n = x from fun h => e h.symm)]
      omega
theorem getD_mem {l : List Int} {j : Nat} (h : j < l.length) : l.getD j 0 ∈ l := by
  have e : l.getD j 0 = l[j] := by rw [List.getD, List.getElem?_eq_getElem h]; rfl
  rw [e]; exact List.getElem_mem h
theorem intsF_at {n : Nat} {g : Nat → Bool} {j : Nat} (h : j < (intsF n g).length) : ∃ x : Nat, (intsF n g).getD j 0 = (x : Int) ∧ x < n ∧ g x = true := by
  exact mem_intsF.1 (getD_mem h)
theorem app_at {n : Nat} {g h : Nat → Bool} {j : Nat} (hj : j < (intsF n g ++ intsF n h).length) : ∃ x : Nat, (intsF n g ++ intsF n h).getD j 0 = (x : Int) ∧ x < n := by
  rcases List.mem_append.1 (getD_mem hj) with h | h
  · obtain ⟨x, e, hx, _⟩ := mem_intsF.1 h; exact ⟨x, e, hx⟩
  · obtain ⟨x, e, hx, _⟩ := mem_intsF.1 h; exact ⟨x, e, hx⟩
theorem union_at {B : List UInt8} {c : UInt8} {l m : List Int} {n : Nat} (i : Nat) (hi : i < n) : inL (intsF n (stepF B c (inL l)) ++ intsF n (stepF B c (inL m))) i = stepF B c (inL (m ++ l)) i := by
  rw [inL_app, inL_ints hi, inL_ints hi, ← stepF_or]
  exact stepF_congr (n := n) (fun j _ => by rw [inL_app, Bool.or_comm]) i hi

/-- A list of one's own reads on while a block below it is written. -/
theorem OwnI.reads {w : World} {B : Nat} {v : Value} {zs : List Int} (h : OwnI w B v zs) : ∃ a cap, v = .slice a zs.length cap ∧ Hid (∀ s W, s < B → OnlyAt s w.heap.size w W → ∀ k, k < zs.length → ∃ b' off, a = some ⟨b', off, none⟩ ∧ W.cell? ⟨b', off + k, none⟩ = some (.int .i64 (zs.getD k 0))) := by
  have h2 := h
  obtain ⟨hl, h⟩ := h
  rcases h with ⟨rfl, h0⟩ | ⟨g, cap, cur, rfl, hB, hg, r⟩
  · exact ⟨none, 0, by rw [h0], Lib.hid (fun _ _ _ _ k hk => absurd hk (by omega))⟩
  · refine ⟨_, cap, rfl, Lib.hid (fun s W hs hW k hk => ⟨g, 0, rfl, ?_⟩)⟩
    rcases h2.ints with ⟨e, _⟩ | ⟨a, c, e, e0⟩ | ⟨b', off, c, e, hlt, hc⟩
    · cases e
    · rw [e0] at hk; simp at hk
    · cases e
      rw [← hc k hk]
      simp only [World.cell?, hW.block g hlt (by omega)]

/-- A list appended to a list of one's own, behind a guard that holds. -/
theorem appIG {ops : Array Oper} {rest : List Oper} {o : Oper} {a : Act} {Q : Exit → Act → World → Prop} {w : World} (B : Nat) {v xv : Value} {ys zs : List Int} (hown : OwnI w B v ys) (hxs : Ints w xv zs) (hn : ys.length + zs.length ≤ 3000000) (hB : B ≤ w.heap.size)
    (hw : Region.wanted o (yielded ops a.tmps) = true) (sl x : Operand) (ho : o.op = .call { callee := .builtin .append, args := #[sl, x], argTypes := #[31, 31] })
    (hs : a.eval sl = v) (hx : a.eval x = xv)
    (h : ∀ v' w', OwnI w' B v' (ys ++ zs) → w.grownBy w' v.ownBlock → wpList Try.prog ops Q rest (a.put o.dst v') w') :
    wpList Try.prog ops Q (o :: rest) a w := by
  obtain ⟨i0, hi, hz0, hz1, hz2⟩ := info_parts info_int
  refine wpList_step fun K hK => ?_
  rw [if_pos hw]
  have fin : ∀ v' w', w'.ownsRow B 3 1 v' (ys.length + zs.length) (ys.map (Value.int .i64) ++ zs.map (Value.int .i64)) → w.grownBy w' v.ownBlock → K (a.put o.dst v') w' := fun v' w' h1 h2 => by
    refine hK _ _ (h v' w' ?_ h2)
    unfold OwnI
    rw [List.length_append, List.map_append]
    exact h1
  rcases hxs with ⟨rfl, rfl⟩ | ⟨b, cap, rfl, rfl⟩ | ⟨b, off, cap, rfl, _, hc⟩
  · have hrun := run_append_owned_none (P := Try.prog) (w := w) B 31 o.type 3 i0 1 Try.underlying31 hi v ys.length _ hown
    unfold Oper.wp
    simp [execOp, ho, resolve, invoke, builtin, hs, hx, hrun, Result.andThen]
    exact fin v w (by unfold OwnI at hown; simpa using hown) ⟨rfl, rfl, rfl, Nat.le_refl _, fun _ _ _ => rfl⟩
  · exact wp_append_own w sl x 31 ho B 3 i0 (.int .i64 0) 1 8 Try.underlying31 hi hz0 hz1 hz2 rfl (by decide) v ys.length _ hs hown b 0 cap [] hx rfl (by intro j u hj; simp at hj) (by intro u hu; simp at hu) (by simp at hn; unfold maxLen; omega) (by simp at hn; omega) hB (fun v' w' h1 h2 _ => fin v' w' h1 h2)
  · refine wp_append_own w sl x 31 ho B 3 i0 (.int .i64 0) 1 8 Try.underlying31 hi hz0 hz1 hz2 rfl (by decide) v ys.length _ hs hown ⟨b, off, none⟩ zs.length cap (zs.map (Value.int .i64)) hx (by simp) ?c1 ?c2 ?c3 ?c4 hB (fun v' w' h1 h2 _ => fin v' w' h1 h2)
    case c1 =>
      intro j u hj
      have hjl : j < zs.length := by
        have := (List.getElem?_eq_some_iff.1 hj).1
        simpa using this
      have : (⟨b, off, none⟩ : Addr).add j = ⟨b, off + j, none⟩ := by unfold Addr.add; split <;> simp_all
      rw [this, hc j hjl, ← hj]
      simp [List.getD, hjl]
    case c2 => intro u hu; simp at hu; obtain ⟨y, _, rfl⟩ := hu; rfl
    case c3 => unfold maxLen; omega
    case c4 => omega

theorem info_bool2 : (Try.prog.info? 4).map (fun i => (i.zero, i.size, i.bytes)) = some (some (.bool false), 1, 1) := by kernel_rfl
theorem make_row (n : Nat) (hn : n ≤ 1000000) (w : World) :
    (Instr.makeSlice 47 (.int .i64 (n : Int)) (.int .i64 (n : Int))).run Try.prog w = .ok (.slice (some ⟨w.heap.size, 0, none⟩) n n) (w.alloc (.cells (madeCells #[.bool false] n) 4)) :=
  run_make_row' (P := Try.prog) 47 4 (.bool false) 1 Try.underlying47 info_bool2 rfl .i64 .i64 n (by omega) (by omega) w

set_option maxHeartbeats 8000000 in
set_option maxRecDepth 1000000 in
theorem joins_core (p : ByteArray) (f : Bool) {v1 v2 : Value} {l m : List Int} (c : UInt8) (w : World) (h1 : Ints w v1 l) (h2 : Ints w v2 m) (hp : checkN p.size = 0) (hl : l.length ≤ 200) (hm : m.length ≤ 200) :
    Calls Try.prog 6 #[.string p, .bool f, v1, v2, .int .u8 (c.toNat : Int)] w fun e w' => e = .returned (.bool true) ∧ Below w.heap.size w w' := by
  have hp2 := (check_pos hp).2
  obtain ⟨P, hP⟩ : ∃ P, normP p = P := ⟨_, rfl⟩
  obtain ⟨B, hB⟩ : ∃ B, cntL f P = B := ⟨_, rfl⟩
  obtain ⟨d, hd⟩ : ∃ d, cntC f c = d := ⟨_, rfl⟩
  have hPl : P.length ≤ 255 := by rw [← hP]; exact Nat.le_trans (normP_len p) hp2
  have hns : noSt P := by rw [← hP]; exact normP_no p
  obtain ⟨a1, cap1, rfl, _⟩ := h1.reads
  obtain ⟨a2, cap2, rfl, _⟩ := h2.reads
  have H1 := Lib.hid h1
  have H2 := Lib.hid h2
  clear h1 h2
  have C0 := Lib.hid (lives_any w)
  have C1 : Hid (∀ W, Calls Try.prog 8 #[.string p, .bool f] W fun e w' => ∃ b, e = .returned (.tuple #[.pointer (some ⟨b, 0, none⟩), .int .i64 0]) ∧ W.heap.size ≤ b ∧ NfaAt w' b P f ∧ Below W.heap.size W w') := Lib.hid (fun W => by have := new_any p f W hp; rwa [hP] at this)
  obtain ⟨A, hAe⟩ : ∃ A, intsF (P.length + 1) (stepF B d (inL l)) = A := ⟨_, rfl⟩
  obtain ⟨Bm, hBe⟩ : ∃ A, intsF (P.length + 1) (stepF B d (inL m)) = A := ⟨_, rfl⟩
  obtain ⟨G, hGe⟩ : ∃ G, stepF B d (inL (m ++ l)) = G := ⟨_, rfl⟩
  obtain ⟨Cc, hCe⟩ : ∃ A, intsF (P.length + 1) G = A := ⟨_, rfl⟩
  obtain ⟨E, hEe⟩ : ∃ E, A ++ Bm = E := ⟨_, rfl⟩
  have hAl : A.length ≤ 256 := by rw [← hAe]; exact Nat.le_trans (intsF_len _ _) (by omega)
  have hBl : Bm.length ≤ 256 := by rw [← hBe]; exact Nat.le_trans (intsF_len _ _) (by omega)
  have hEl : E.length ≤ 512 := by rw [← hEe, List.length_append]; omega
  have hCl : Cc.length ≤ 256 := by rw [← hCe]; exact Nat.le_trans (intsF_len _ _) (by omega)
  have HE1 : Hid (∀ j, j < E.length → ∃ x : Nat, E.getD j 0 = (x : Int) ∧ x < P.length + 1) := Lib.hid (fun j hj => by
    rw [← hEe, ← hAe, ← hBe] at hj ⊢; exact app_at hj)
  have HE2 : Hid (∀ i, i < P.length + 1 → inL E i = G i) := Lib.hid (fun i hi => by
    rw [← hEe, ← hAe, ← hBe, ← hGe]; exact union_at i hi)
  have HC1 : Hid (∀ j, j < Cc.length → ∃ x : Nat, Cc.getD j 0 = (x : Int) ∧ x < P.length + 1 ∧ G x = true) := Lib.hid (fun j hj => by
    rw [← hCe] at hj ⊢; exact intsF_at hj)
  have HC2 : Hid ((listF (P.length + 1) G).length = Cc.length) := Lib.hid (by rw [← hCe]; unfold intsF; rw [List.length_map])
  have HEe := Lib.hid hEe
  have C2a : Hid (∀ (W : World) (b : Nat) (v : Value), NfaAt W b P f → Ints W v l → Calls Try.prog 14 #[.pointer (some ⟨b, 0, none⟩), v, .int .u8 (c.toNat : Int)] W fun e w' => ∃ v', e = .returned v' ∧ Ints w' v' A ∧ Below W.heap.size W w') :=
    Lib.hid (fun W b v h hv => by have := take_any h (by omega) hns hv (by omega) c; rwa [hB, hd, hAe] at this)
  have C2b : Hid (∀ (W : World) (b : Nat) (v : Value), NfaAt W b P f → Ints W v m → Calls Try.prog 14 #[.pointer (some ⟨b, 0, none⟩), v, .int .u8 (c.toNat : Int)] W fun e w' => ∃ v', e = .returned v' ∧ Ints w' v' Bm ∧ Below W.heap.size W w') :=
    Lib.hid (fun W b v h hv => by have := take_any h (by omega) hns hv (by omega) c; rwa [hB, hd, hBe] at this)
  have C2c : Hid (∀ (W : World) (b : Nat) (v : Value), NfaAt W b P f → Ints W v (m ++ l) → Calls Try.prog 14 #[.pointer (some ⟨b, 0, none⟩), v, .int .u8 (c.toNat : Int)] W fun e w' => ∃ v', e = .returned v' ∧ Ints w' v' Cc ∧ Below W.heap.size W w') :=
    Lib.hid (fun W b v h hv => by have := take_any h (by omega) hns hv (by rw [List.length_append]; omega) c; rwa [hB, hd, hGe, hCe] at this)
  have HX : Hid (inL (l ++ m) P.length = (inL l P.length || inL m P.length)) := Lib.hid (inL_app l m P.length)
  have C3 : Hid (∀ (W : World) (v : Value) (zs : List Int), Ints W v zs → zs.length ≤ 1000000 → Calls Try.prog 20 #[v] W fun e w' => ∃ v', e = .returned v' ∧ OwnI w' W.heap.size v' zs ∧ Below W.heap.size W w') := Lib.hid (fun W v zs h hz => own_any h hz)
  have C4 : Hid (∀ (W : World) (b : Nat), NfaAt W b P f → Calls Try.prog 11 #[.pointer (some ⟨b, 0, none⟩)] W fun e w' => e = .returned (.int .i64 ((P.length : Int) + 1)) ∧ w' = W) := Lib.hid (fun W b h => sizes_any h (by omega))
  have C5 : Hid (∀ (W : World) (b : Nat) (v : Value) (zs : List Int), NfaAt W b P f → Ints W v zs → zs.length ≤ 1000000 → Calls Try.prog 15 #[.pointer (some ⟨b, 0, none⟩), v] W fun e w' => e = .returned (.bool (inL zs P.length)) ∧ w' = W) := Lib.hid (fun W b v zs h hv hz => accepts_any h hv hz)
  clear hB hd hP hp hAe hBe hGe hCe hEe
  have hpz : ¬ ((300 : Int) < (p.size : Int)) := by omega
  have hlz : ¬ ((200 : Int) < (l.length : Int)) := by omega
  have hmz : ¬ ((200 : Int) < (m.length : Int)) := by omega
  have hmk := make_row (P.length + 1) (by omega)
  rw [show ((P.length + 1 : Nat) : Int) = (P.length : Int) + 1 from rfl] at hmk
  go_enter Try.func6, Try.ntmps6
  go_wp2_with (go_at_call 9; refine C0.out.mono ?_; rintro e w1 ⟨rfl, hb1⟩)
  refine (C1.out _).mono ?_
  rintro e w2 ⟨b, rfl, _, ho2, hb2⟩
  replace hb2 := hb1.trans (hb2.mono hb1.size)
  clear hb1 C0 C1
  have hl2 := ho2.lt
  go_wp2_with fail
  refine (C2a.out _ _ _ ho2 (H1.out.below hb2)).mono ?_
  rintro e w3 ⟨va, rfl, hA, hb3⟩
  go_wp2_with fail
  refine (C2b.out _ _ _ (ho2.below hb3 hl2) ((H2.out.below hb2).below hb3)).mono ?_
  rintro e w4 ⟨vb, rfl, hBm, hb4⟩
  replace hA := hA.below hb4
  replace hb4 := on1 hb3 hb4 (Nat.le_refl _)
  have hbw4 := hb2.trans (hb4.mono hb2.size)
  clear hb3
  go_wp2_with fail
  refine (C3.out _ _ _ (H2.out.below hbw4) (by omega)).mono ?_
  rintro e w5 ⟨vm, rfl, how5, hb5⟩
  have hi5 : Ints w5 (.slice a1 l.length cap1) l := (H1.out.below hbw4).below hb5
  go_wp2_with (at_builtin; refine appI w4.heap.size how5 hi5 (by omega) hb5.size rfl _ _ rfl rfl rfl ?_; intro v6 w6 how6 hg6)
  have hb6 := below_appI hb5 how5 hb5.size hg6
  replace hA := hA.below hb6
  replace hBm := hBm.below hb6
  replace hb6 := on1 hb4 hb6 (Nat.le_refl _)
  clear how5 hb5 hg6 hi5 hb4 hbw4
  refine (C2c.out _ _ _ (ho2.below hb6 hl2) how6.ints).mono ?_
  rintro e w7 ⟨vc, rfl, hC, hb7⟩
  obtain ⟨ac, capc, rfl, hrc⟩ := hC.reads
  replace hA := hA.below hb7
  replace hBm := hBm.below hb7
  replace hb7 := on1 hb6 hb7 (Nat.le_refl _)
  clear hb6 how6 hC
  go_wp2_with (go_at_call 11; refine (C4.out _ _ (ho2.below hb7 hl2)).mono ?_; rintro e w8 ⟨rfl, rfl⟩)
  have hs9 := set_made w8 (P.length + 1)
  have hba : Below w8.heap.size w8 (w8.alloc (.cells (madeCells #[.bool false] (P.length + 1)) 4)) := (Below.refl _ _).alloc (Nat.le_refl _) _
  have hsz9 : (w8.alloc (.cells (madeCells #[.bool false] (P.length + 1)) 4)).heap.size = w8.heap.size + 1 := by simp
  replace hA := hA.below hba
  replace hBm := hBm.below hba
  obtain ⟨W9, hW9⟩ : ∃ W9, w8.alloc (.cells (madeCells #[.bool false] (P.length + 1)) 4) = W9 := ⟨_, rfl⟩
  rw [hW9] at hs9 hba hsz9 hA hBm
  rw [hW9]
  clear hW9 hmk
  refine (C3.out _ _ _ hA (by omega)).mono ?_
  rintro e w10 ⟨va', rfl, how10, hb10⟩
  replace hBm := hBm.below hb10
  clear hA
  go_wp2_with (at_builtin; refine appI W9.heap.size how10 hBm (by omega) hb10.size rfl _ _ rfl rfl rfl ?_; intro ve w11 how11 hg11; rw [HEe.out] at how11; obtain ⟨ae, cape, rfl, hre⟩ := how11.reads)
  have hb11 := below_appI hb10 how10 hb10.size hg11
  replace hs9 := hs9.below hb11 (by omega)
  have hb811 : Below w8.heap.size w8 w11 := hba.trans (hb11.mono (by omega))
  clear how10 hb10 hg11 hBm how11 hba
  obtain ⟨s, hs⟩ : ∃ s, w8.heap.size = s := ⟨_, rfl⟩
  rw [hs] at hs9 hb811 hsz9 hrc
  rw [hs]
  have hs8 : w2.heap.size ≤ s := by rw [← hs]; exact hb7.size
  have HS0 : Hid (SetAt w11 s (P.length + 1) (inL (E.take 0)) ∧ 0 = (listF (P.length + 1) (inL (E.take 0))).length) := Lib.hid ⟨hs9.congr (fun i _ => by simp [inL]), by
    have : listF (P.length + 1) (inL (E.take 0)) = [] := List.filter_eq_nil_iff.2 (fun i _ => by simp [inL])
    rw [this]; rfl⟩
  have HO0 := Lib.hid (OnlyAt.refl s w11.heap.size w11)
  replace hb811 := Lib.hid hb811
  replace hb7 := Lib.hid hb7
  replace hs := Lib.hid hs
  clear hs9 hb11
  go_loopg [17, 19] E.length (fun gk s17 s19 wr => ∃ i n : Nat, i + gk = E.length ∧ s19 = .int .i64 i ∧ s17 = .int .i64 n ∧ n ≤ i ∧ Hid (SetAt wr s (P.length + 1) (inL (E.take i)) ∧ n = (listF (P.length + 1) (inL (E.take i))).length) ∧ Hid (OnlyAt s w11.heap.size w11 wr))
  case atStart => exact ⟨0, 0, by omega, rfl, rfl, Nat.le_refl _, HS0, HO0⟩
  case round =>
    obtain ⟨i, n, hig, rfl, rfl, hni, HS, HO⟩ := hrel
    clear HS0 HO0
    cases gk with
    | succ g' =>
      have hiz : (i : Int) < (E.length : Int) := by omega
      have hin : i < E.length := by omega
      obtain ⟨b', off, rfl, hce⟩ := hre.out s wr (by omega) HO.out i hin
      obtain ⟨x, hx, hxn⟩ := HE1.out i hin
      have HT : Hid (E.take (i + 1) = E.take i ++ [(x : Int)]) := Lib.hid (by rw [take_int E i hin, hx])
      rw [hx] at hce
      clear hx
      have hx0 : ¬ ((x : Int) < 0) := by omega
      have hx1 : (x : Int) < (P.length : Int) + 1 := by omega
      have hcc := World.rowIs.cell HS.out.1 (i := x) hxn
      have hff := World.rowIs.frozen HS.out.1 x
      cases hv : inL (E.take i) x with
      | true =>
        rw [hv] at hcc
        have HS2 : Hid (SetAt wr s (P.length + 1) (inL (E.take (i + 1))) ∧ n = (listF (P.length + 1) (inL (E.take (i + 1)))).length) := by
          have e : ∀ j, j < P.length + 1 → inL (E.take i) j = inL (E.take (i + 1)) j := fun j _ => by
            rw [HT.out, inL_snoc]
            by_cases ej : x = j
            · subst ej; rw [hv]; simp
            · have : ¬ ((x : Int) = (j : Int)) := by omega
              simp [this]
          exact Lib.hid ⟨HS.out.1.congr e, by rw [← listF_congr e]; exact HS.out.2⟩
        clear hv
        go_wp2
        go_roundg g'
        case measure => omega
        case rel => exact ⟨i + 1, n, by omega, iv (by omega), rfl, by omega, HS2, HO⟩
      | false =>
        rw [hv] at hcc
        have HS2 : Hid (SetAt (wr.setCell ⟨s, x, none⟩ (.bool true)) s (P.length + 1) (inL (E.take (i + 1))) ∧ n + 1 = (listF (P.length + 1) (inL (E.take (i + 1)))).length) := by
          have e : ∀ j, j < P.length + 1 → (if j = x then true else inL (E.take i) j) = inL (E.take (i + 1)) j := fun j _ => by
            rw [HT.out, inL_snoc]
            by_cases ej : j = x
            · subst ej; simp
            · have : ¬ ((x : Int) = (j : Int)) := by omega
              simp [this, ej]
          exact Lib.hid ⟨(HS.out.1.add x).congr e, by rw [← listF_congr e, listF_add hv hxn, ← HS.out.2]⟩
        clear hv
        go_wp2
        go_roundg g'
        case measure => omega
        case rel => exact ⟨i + 1, n + 1, by omega, iv (by omega), iv (by omega), by omega, HS2, Lib.hid (HO.out.set _ _)⟩
    | zero =>
      have hiz : ¬ ((i : Int) < (E.length : Int)) := by omega
      have hie : i = E.length := by omega
      have hG : ∀ j, j < P.length + 1 → inL (E.take i) j = G j := fun j hj => by rw [List.take_of_length_le (by omega)]; exact HE2.out j hj
      have HR : Hid (SetAt wr s (P.length + 1) G) := Lib.hid (HS.out.1.congr hG)
      obtain rfl : n = Cc.length := by rw [HS.out.2, listF_congr hG, HC2.out]
      have HBr : Hid (Below s w8 wr) := Lib.hid (hb811.out.trans (HO.out.below (Nat.le_refl _) (by have := hb811.out.size; rw [hs.out] at this; exact this)))
      clear hG HS HO hie
      go_wp2
      go_loopg [20] Cc.length (fun gk s20 wi => ∃ k : Nat, k + gk = Cc.length ∧ s20 = .int .i64 k ∧ wi = wr)
      case atStart => exact ⟨0, by omega, rfl, rfl⟩
      case round =>
        obtain ⟨k, hkg, rfl, rfl⟩ := hrel
        cases gk with
        | succ g' =>
          have hkz : (k : Int) < (Cc.length : Int) := by omega
          have hkn : k < Cc.length := by omega
          obtain ⟨b', off, rfl, hce⟩ := hrc.out _ HBr.out k hkn
          obtain ⟨x, hx, hxn, hgx⟩ := HC1.out k hkn
          have hcc := World.rowIs.cell HR.out (i := x) hxn
          rw [hx] at hce
          rw [hgx] at hcc
          clear hx hgx
          have hx0 : ¬ ((x : Int) < 0) := by omega
          have hx1 : (x : Int) < (P.length : Int) + 1 := by omega
          go_wp2
          go_roundg g'
          case measure => omega
          case rel => exact ⟨k + 1, by omega, iv (by omega), rfl⟩
        | zero =>
          have hkz : ¬ ((k : Int) < (Cc.length : Int)) := by omega
          have HBs := HBr.out
          rw [← hs.out] at HBs
          have hbW := hb7.out.trans (HBs.mono hb7.out.size)
          have ho9 := ho2.below hbW hl2
          have hbw := hb2.trans (hbW.mono hb2.size)
          have HL := Lib.hid (H1.out.below hbw)
          have HM := Lib.hid (H2.out.below hbw)
          replace hbw := Lib.hid hbw
          clear HBs hbW HR HBr hb7 hb2 hb811 hrc hre HE1 HE2 HC1 HC2 H1 H2 ho2
          obtain ⟨y, hy⟩ : ∃ y, inL m P.length = y := ⟨_, rfl⟩
          cases hx : inL l P.length with
          | true =>
            rw [hx] at HX
            go_wp2_with fail
            refine (C3.out _ _ _ HL.out (by omega)).mono ?_
            rintro e w13 ⟨v13, rfl, how13, hb13⟩
            have hM13 := HM.out.below hb13
            go_wp2_with (at_builtin; refine appIG _ how13 hM13 (by omega) hb13.size (by first | rfl | simp [Region.wanted, yielded]) _ _ rfl rfl rfl ?_; intro v14 w14 how14 hg14)
            have hb14 := below_appI hb13 how13 hb13.size hg14
            clear how13 hb13 hg14 hM13
            have C6 := Lib.hid (C5.out _ _ _ _ (ho9.below hb14 ho9.lt) how14.ints (by rw [List.length_append]; omega))
            have C7 := Lib.hid (C5.out _ _ _ _ (ho9.below hb14 ho9.lt) (HL.out.below hb14) (by omega))
            rw [HX.out] at C6
            rw [hx] at C7
            refine C6.out.mono ?_
            rintro e w15 ⟨rfl, rfl⟩
            go_wp2_with fail
            refine C7.out.mono ?_
            rintro e w15 ⟨rfl, rfl⟩
            have hfin := Lib.hid (hbw.out.trans (hb14.mono hbw.out.size))
            clear hb14 how14 hx
            go_wp2
            go_ret
            exact ⟨rfl, hfin.out⟩
          | false =>
            rw [hx, hy] at HX
            go_wp2_with fail
            refine (C3.out _ _ _ HL.out (by omega)).mono ?_
            rintro e w13 ⟨v13, rfl, how13, hb13⟩
            have hM13 := HM.out.below hb13
            go_wp2_with (at_builtin; refine appIG _ how13 hM13 (by omega) hb13.size (by first | rfl | simp [Region.wanted, yielded]) _ _ rfl rfl rfl ?_; intro v14 w14 how14 hg14)
            have hb14 := below_appI hb13 how13 hb13.size hg14
            clear how13 hb13 hg14 hM13
            have C6 := Lib.hid (C5.out _ _ _ _ (ho9.below hb14 ho9.lt) how14.ints (by rw [List.length_append]; omega))
            have C7 := Lib.hid (C5.out _ _ _ _ (ho9.below hb14 ho9.lt) (HL.out.below hb14) (by omega))
            have C8 := Lib.hid (C5.out _ _ _ _ (ho9.below hb14 ho9.lt) (HM.out.below hb14) (by omega))
            rw [HX.out] at C6
            rw [hx] at C7
            rw [hy] at C8
            refine C6.out.mono ?_
            rintro e w15 ⟨rfl, rfl⟩
            go_wp2_with fail
            refine C7.out.mono ?_
            rintro e w15 ⟨rfl, rfl⟩
            go_wp2_with fail
            refine C8.out.mono ?_
            rintro e w15 ⟨rfl, rfl⟩
            have hfin := Lib.hid (hbw.out.trans (hb14.mono hbw.out.size))
            clear hb14 how14 hx hy
            go_wp2
            go_ret
            exact ⟨rfl, hfin.out⟩

set_option maxRecDepth 1000000 in
/-- New refuses the glob. -/
theorem joins_not (p : ByteArray) (f : Bool) {v1 v2 : Value} {l m : List Int} (c : Value) (w : World) (h1 : Ints w v1 l) (h2 : Ints w v2 m) (hp : checkN p.size ≠ 0) :
    Calls Try.prog 6 #[.string p, .bool f, v1, v2, c] w fun e w' => e = .returned (.bool true) ∧ Below w.heap.size w w' := by
  obtain ⟨a1, cap1, rfl, _⟩ := h1.reads
  obtain ⟨a2, cap2, rfl, _⟩ := h2.reads
  clear h1 h2
  have C0 := Lib.hid (lives_any w)
  have C1 := Lib.hid (fun W => new_not p f W hp)
  obtain ⟨k, hk⟩ : ∃ k, checkN p.size = k := ⟨_, rfl⟩
  rw [hk] at C1 hp
  clear hk
  have hz : ¬ (k = 0) := hp
  by_cases d1 : (300 : Int) < (p.size : Int)
  · go_enter Try.func6, Try.ntmps6
    go_wp2_with (go_at_call 9; refine C0.out.mono ?_; rintro e w1 ⟨rfl, hb1⟩)
    go_ret
    exact ⟨rfl, hb1⟩
  · by_cases d2 : (200 : Int) < (l.length : Int)
    · go_enter Try.func6, Try.ntmps6
      go_wp2_with (go_at_call 9; refine C0.out.mono ?_; rintro e w1 ⟨rfl, hb1⟩)
      go_ret
      exact ⟨rfl, hb1⟩
    · by_cases d3 : (200 : Int) < (m.length : Int)
      · go_enter Try.func6, Try.ntmps6
        go_wp2_with (go_at_call 9; refine C0.out.mono ?_; rintro e w1 ⟨rfl, hb1⟩)
        go_ret
        exact ⟨rfl, hb1⟩
      · go_enter Try.func6, Try.ntmps6
        go_wp2_with (first | (go_at_call 9; refine C0.out.mono ?_; rintro e w1 ⟨rfl, hb1⟩) | (go_at_call 8; refine (C1.out _).mono ?_; rintro e w2 ⟨rfl, rfl⟩))
        go_ret
        exact ⟨rfl, hb1⟩

set_option maxRecDepth 1000000 in
/-- A list is too long. -/
theorem joins_long (p : ByteArray) (f : Bool) {v1 v2 : Value} {l m : List Int} (c : Value) (w : World) (h1 : Ints w v1 l) (h2 : Ints w v2 m) (hp : p.size ≤ 255) (hlm : 200 < l.length ∨ 200 < m.length) :
    Calls Try.prog 6 #[.string p, .bool f, v1, v2, c] w fun e w' => e = .returned (.bool true) ∧ Below w.heap.size w w' := by
  obtain ⟨a1, cap1, rfl, _⟩ := h1.reads
  obtain ⟨a2, cap2, rfl, _⟩ := h2.reads
  clear h1 h2
  have C0 := Lib.hid (lives_any w)
  have d1 : ¬ ((300 : Int) < (p.size : Int)) := by omega
  by_cases d2 : (200 : Int) < (l.length : Int)
  · clear hlm
    go_enter Try.func6, Try.ntmps6
    go_wp2_with (go_at_call 9; refine C0.out.mono ?_; rintro e w1 ⟨rfl, hb1⟩)
    go_ret
    exact ⟨rfl, hb1⟩
  · have d3 : (200 : Int) < (m.length : Int) := by omega
    clear hlm
    go_enter Try.func6, Try.ntmps6
    go_wp2_with (go_at_call 9; refine C0.out.mono ?_; rintro e w1 ⟨rfl, hb1⟩)
    go_ret
    exact ⟨rfl, hb1⟩

/-- The law, for every input. -/
theorem joins_any (p : ByteArray) (f : Bool) {v1 v2 : Value} {l m : List Int} (c : UInt8) (w : World) (h1 : Ints w v1 l) (h2 : Ints w v2 m) :
    Calls Try.prog 6 #[.string p, .bool f, v1, v2, .int .u8 (c.toNat : Int)] w fun e w' => e = .returned (.bool true) ∧ Below w.heap.size w w' := by
  by_cases hp : checkN p.size = 0
  · by_cases hl : l.length ≤ 200
    · by_cases hm : m.length ≤ 200
      · exact joins_core p f c w h1 h2 hp hl hm
      · exact joins_long p f _ w h1 h2 (check_pos hp).2 (.inr (by omega))
    · exact joins_long p f _ w h1 h2 (check_pos hp).2 (.inl (by omega))
  · exact joins_not p f _ w h1 h2 hp

open Go.ChangeShapes Go.WideShapes Go.ChangeAt
open Go.ChangeMaps (open_string shut_string)
theorem joins_own : ownKnob Try.prog.godebug = none := by kernel_rfl

set_option maxRecDepth 100000 in
theorem joins_lifted (os : Os) (started : os.Started) (H : Type) (enc : TypeId × Value → H) :
    ReturnsInHanded {} Try.checked os 6 .any (Rows.nfaJoinsSpec.pre6 enc Try.prog Try.f6 Rows.nfaJoinsRow.domain false) (Rows.nfaJoinsSpec.post enc Try.prog Try.f6 false true false false) := by
  refine returnsInHanded_of_change (C := Try.checked) joins_own started (by kernel_rfl) Try.func6
    (ChangeSpec.witness6 (enc := enc) (C := Try.checked) false ⟨#[], #[.string ByteArray.empty, .bool false, .slice none 0 0, .slice none 0 0, .int .u8 0], []⟩ 8 (by kernel_rfl) (by kernel_rfl) (by kernel_rfl) (by kernel_rfl)) ?_
  intro W base args ds gs before hval0 hW hcnd _
  have hval : ∀ (j : Nat) t v, Try.f6.params[j]? = some t → args[j]? = some v → Value.okWide Try.prog W .any base t v := hval0
  have hW' := hW
  obtain ⟨p, q, hA0, hV, rfl, hfz, hnd⟩ := hW
  have hA : DataW.TrodAll enc Try.prog W 0 (fun _ => true) true Try.f6.params.toList args.toList ds p := hA0
  rw [Try.params6] at hA hval
  obtain ⟨v0, vs0, d0, ds0, p0, q0, hargs, rfl, rfl, h0, r0⟩ := trodAll_cons hA
  obtain ⟨v1, vs1, d1, ds1, p1, q1, rfl, rfl, rfl, h1, r1⟩ := trodAll_cons r0
  obtain ⟨v2, vs2, d2, ds2, p2, q2, rfl, rfl, rfl, h2, r2⟩ := trodAll_cons r1
  obtain ⟨v3, vs3, d3, ds3, p3, q3, rfl, rfl, rfl, h3, r3⟩ := trodAll_cons r2
  obtain ⟨v4, vs4, d4, ds4, p4, q4, rfl, rfl, rfl, h4, r4⟩ := trodAll_cons r3
  obtain ⟨rfl, rfl, rfl⟩ := trodAll_nil r4
  obtain rfl : args = #[v0, v1, v2, v3, v4] := by cases args; simp_all
  obtain ⟨rfl, rfl⟩ := trodVars_none hV
  obtain ⟨a0, rfl, rfl, rfl, w0⟩ := open_string Try.underlying9 (hval 0 9 v0 rfl rfl) h0
  obtain ⟨a1, rfl, rfl, rfl⟩ := open_bool Try.underlying4 (hval 1 4 v1 rfl rfl) h1
  obtain ⟨a4, rfl, rfl, rfl, w4⟩ := open_int Try.underlying5 (hval 4 5 v4 rfl rfl) h4
  obtain ⟨c4, rfl⟩ := byte_of w4
  have hlt2 : ∀ x ∈ p2, x.block < W.heap.size := fun x hx => by simpa using hW'.lt x (by simp [hx])
  obtain ⟨zs2, i2⟩ := open_list (hval 2 31 v2 rfl rfl) h2 hlt2
  have hlt3 : ∀ x ∈ p3, x.block < W.heap.size := fun x hx => by simpa using hW'.lt x (by simp [hx])
  obtain ⟨zs3, i3⟩ := open_list (hval 3 31 v3 rfl rfl) h3 hlt3
  clear hA0 hval0
  simp only [List.append_nil] at hW'
  refine (joins_any a0 a1 c4 W i2 i3).mono fun e W' ⟨he, bel⟩ => ?_
  subst he
  exact ⟨_, rfl, _, _, _, [], _, [], hW', trodAll_mk1 (shut_bool Try.underlying4 _), (trodAll_cons_mk (shut_string Try.underlying9 w0) (trodAll_cons_mk (shut_bool Try.underlying4 _) (trodAll_cons_mk (Below.trod laid_out (by kernel_rfl) (of_decide_eq_true (by kernel_rfl)) h2 bel hlt2) (trodAll_cons_mk (Below.trod laid_out (by kernel_rfl) (of_decide_eq_true (by kernel_rfl)) h3 bel hlt3) (trodAll_cons_mk (shut_int Try.underlying5 w4) trodAll_mk0))))), rfl, bel.frame _, fun h => by cases h⟩

/-- The statement. -/
theorem joins_said : Rows.NfaJoinsSaid :=
  OpenClaim.holds_of_wide 6 Try.f6 rfl rfl rfl rfl rfl rfl rfl ⟨rfl, rfl, rfl, rfl, rfl⟩ rfl rfl rfl rfl rfl (by kernel_rfl) Try.func6 (by kernel_rfl)
    (of_decide_eq_true (by kernel_rfl)) (by unfold Func.isWrapper; first | (rw [if_pos (by decide +kernel)]; kernel_rfl) | (rw [if_neg (by decide +kernel)]; exact ⟨rfl, rfl⟩))
    (fun os started H enc _ => joins_lifted os started H enc)
#print axioms joins_said
end Go.Proofs.Ytinhihdceijfaaa
