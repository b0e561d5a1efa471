/-
  What is proved: nfa.step fills a set in memory with the set after a byte. Nothing else that lay in memory is changed.
-/
import Derived.Test.YtchobpfdmkgnoaaNfClose
import Derived.Laws.Tables
namespace Go.Proofs.Ytchobpfdmkgnoaa
open Go.RowKit Go.Shelf
attribute [local go_sem] Oper.semAt_some

/-- The world with a set emptied. -/
noncomputable def cleared (W : World) (s n : Nat) : World := W.setRow s (List.replicate n (Value.bool false)).toArray
theorem clear_run {W : World} {s n : Nat} {g : Nat → Bool} (h : SetAt W s (n + 1) g) (ty : TypeId) :
    (Builtin.clear_ #[83] ty #[.slice (some ⟨s, 0, none⟩) (n + 1) (n + 1)]).run Try.prog W = .ok (.tuple #[]) (cleared W s (n + 1)) := by
  obtain ⟨c, hc, hn, _⟩ := h
  have hz : (Builtin.zeroCells #[Value.bool false] (n + 1)).toList = List.replicate (n + 1) (Value.bool false) := by
    apply List.ext_getElem
    · simp [Builtin.zeroCells]
    · intro i h1 h2
      simp [Builtin.zeroCells, Nat.mod_one]
  have hr := run_storeCells_from (P := Try.prog) s 4 (List.replicate (n + 1) (Value.bool false)) 0 c W hc (by simp [hn]) (by intro v hv; rw [List.eq_of_mem_replicate hv]; rfl)
  simp only [List.take_zero, List.nil_append] at hr
  have hv := Try.zeroValue4 W
  simp only [Builtin.clear_]
  simp [run_underlying Try.underlying83, hv, Value.cells, hz, hr, Result.andThen, cleared]
theorem clear_set {W : World} {s n : Nat} {g : Nat → Bool} (h : SetAt W s (n + 1) g) : SetAt (cleared W s (n + 1)) s (n + 1) (fun _ => false) := by
  obtain ⟨c, hc, hn, _⟩ := h
  refine ⟨(List.replicate (n + 1) (Value.bool false)).toArray, ?_, by simp, fun i hi => by simp [hi]⟩
  obtain ⟨hlt, hk⟩ := Array.getElem?_eq_some_iff.1 hc
  show (W.setRow s _).heap[s]? = _
  unfold World.setRow
  simp [Array.getElem?_modify, hc]
theorem clear_only (W : World) (s n B : Nat) : OnlyAt s B W (cleared W s n) :=
  ⟨rfl, rfl, rfl, by simp [cleared, World.setRow], fun k _ hk => by simp [cleared, World.setRow, Array.getElem?_modify, Ne.symm hk]⟩

def toF (B : List UInt8) (c : UInt8) (l : List Nat) : Nat → Bool
  | 0 => l.contains 0 && isStar B 0
  | j + 1 => (l.contains (j + 1) && isStar B (j + 1)) || (l.contains j && goes B c j)
theorem toF_nil (B : List UInt8) (c : UInt8) (i : Nat) : toF B c [] i = false := by cases i <;> simp [toF]
theorem has_snoc (l : List Nat) (x i : Nat) : (l ++ [x]).contains i = (l.contains i || decide (i = x)) := by
  by_cases e : i = x <;> simp [e]
theorem goes_star {B : List UInt8} {c : UInt8} {i : Nat} (h : isStar B i = true) : goes B c i = false := by unfold goes; rw [h]; simp
theorem toF_none {B : List UInt8} {c : UInt8} {l : List Nat} {x : Nat} (h1 : isStar B x = false) (h2 : goes B c x = false) (i : Nat) : toF B c (l ++ [x]) i = toF B c l i := by
  cases i with
  | zero =>
    simp only [toF, has_snoc]
    by_cases e : 0 = x
    · subst e; rw [h1]; simp
    · simp [e]
  | succ j =>
    simp only [toF, has_snoc]
    by_cases e : j + 1 = x
    · subst e; rw [h1]; simp
    · by_cases e2 : j = x
      · subst e2; rw [h2]; simp
      · simp [e, e2]
theorem toF_star {B : List UInt8} {c : UInt8} {l : List Nat} {x : Nat} (h1 : isStar B x = true) (i : Nat) : toF B c (l ++ [x]) i = if i = x then true else toF B c l i := by
  have h2 := goes_star (c := c) h1
  cases i with
  | zero =>
    simp only [toF, has_snoc]
    by_cases e : 0 = x
    · subst e; rw [h1]; simp
    · simp [e]
  | succ j =>
    simp only [toF, has_snoc]
    by_cases e : j + 1 = x
    · subst e; rw [h1]; simp
    · by_cases e2 : j = x
      · subst e2; rw [h2]; simp
      · simp [e, e2]
theorem toF_goes {B : List UInt8} {c : UInt8} {l : List Nat} {x : Nat} (h1 : isStar B x = false) (h2 : goes B c x = true) (i : Nat) : toF B c (l ++ [x]) i = if i = x + 1 then true else toF B c l i := by
  cases i with
  | zero =>
    simp only [toF, has_snoc]
    by_cases e : 0 = x
    · subst e; rw [h1]; simp
    · simp [e]
  | succ j =>
    simp only [toF, has_snoc]
    by_cases e : j + 1 = x
    · subst e; rw [h1]; simp
    · by_cases e2 : j = x
      · subst e2; rw [h2]; simp
      · simp [e, e2]
theorem b63 (c : UInt8) : ((c.toNat : Int) == 63) = (c == 63) := byte_beq c 63
theorem toF_all {B : List UInt8} {c : UInt8} {g : Nat → Bool} {n : Nat} (i : Nat) (hi : i < n) : toF B c (listF n g) i = mv B c g i := by
  have hc : ∀ j, j < n → (listF n g).contains j = g j := fun j hj => by
    apply bool_iff
    rw [List.contains_iff_mem, mem_listF]
    exact ⟨fun e => e.2, fun e => ⟨hj, e⟩⟩
  cases i with
  | zero => simp only [toF, mv]; rw [hc 0 hi]
  | succ j => simp only [toF, mv]; rw [hc _ hi, hc j (by omega)]

set_option maxRecDepth 100000 in
set_option maxHeartbeats 4000000 in
theorem step_in (n : Nat) (hn : 7 ≤ n) (b s1 s2 : Nat) (P : List UInt8) (f : Bool) (c : UInt8) (g g2 : Nat → Bool) (w : World) (hP : P.length ≤ 900000) (hns : noSt P) (ho : NfaAt w b P f) (hs1 : SetAt w s1 (P.length + 1) g) (hs2 : SetAt w s2 (P.length + 1) g2) (h12 : s1 ≠ s2) :
    CallsIn Fence.wide n Try.prog 59 #[.pointer (some ⟨b, 0, none⟩), setV s1 (P.length + 1), setV s2 (P.length + 1), .int .u8 (c.toNat : Int)] w fun e W' =>
      (∃ v, e = .returned v) ∧ SetAt W' s2 (P.length + 1) (stepF (cntL f P) c g) ∧ OnlyAt s2 w.heap.size w W' := by
  have h1 : 1 ≤ n := by omega
  have hbs := set_ne_obj ho hs2
  have hbl := ho.lt
  have hsl1 := hs1.lt
  have hsl2 := hs2.lt
  obtain ⟨B, hB⟩ : ∃ B, cntL f P = B := ⟨_, rfl⟩
  have hBl : B.length = P.length := by rw [← hB]; exact cntL_len f P
  unfold setV
  have hs2a : SetAt (((w.alloc (.cells #[.pointer (some ⟨b, 0, none⟩)] 37)).alloc (.cells #[.slice (some ⟨s2, 0, none⟩) (P.length + 1) (P.length + 1)] 83)).alloc (.cells #[.int .u8 (c.toNat : Int)] 5)) s2 (P.length + 1) g2 := ((World.rowIs.alloc hs2 _).alloc _).alloc _
  have hclr := clear_run hs2a
  refine callsIn_of_wp_marks Try.func59 rfl trivial ?_ rfl
  simp only [Try.ntmps59, List.size_toArray, List.length_cons, List.length_nil, Nat.reduceAdd, Nat.reduceSub, Array.replicate_succ, Array.replicate_zero, List.push_toArray, List.append_toArray, List.nil_append, List.cons_append]
  have C1 := Lib.hid (fun w => callsIn_wide (n := n - 1).2 (states_any (some ⟨s1, 0, none⟩) (P.length + 1) (P.length + 1) w))
  gi_wp2_with (refine ⟨trivial, ?_⟩; gi_at_call 40; refine (C1.out _).mono ?_; rintro e w' ⟨rfl, rfl⟩)
  clear C1 hclr
  have bN := Boxed.new w 37 (.pointer (some ⟨b, 0, none⟩))
  have bS := Boxed.new (w.alloc (.cells #[.pointer (some ⟨b, 0, none⟩)] 37)) 83 (.slice (some ⟨s2, 0, none⟩) (P.length + 1) (P.length + 1))
  have bC := Boxed.new ((w.alloc (.cells #[.pointer (some ⟨b, 0, none⟩)] 37)).alloc (.cells #[.slice (some ⟨s2, 0, none⟩) (P.length + 1) (P.length + 1)] 83)) 5 (.int .u8 (c.toNat : Int))
  rw [World.size_alloc] at bS
  rw [World.size_alloc, World.size_alloc] at bC
  replace bN := (bN.alloc (.cells #[.slice (some ⟨s2, 0, none⟩) (P.length + 1) (P.length + 1)] 83)).alloc (.cells #[.int .u8 (c.toNat : Int)] 5)
  replace bS := bS.alloc (.cells #[.int .u8 (c.toNat : Int)] 5)
  have hBa : Below w.heap.size w (((w.alloc (.cells #[.pointer (some ⟨b, 0, none⟩)] 37)).alloc (.cells #[.slice (some ⟨s2, 0, none⟩) (P.length + 1) (P.length + 1)] 83)).alloc (.cells #[.int .u8 (c.toNat : Int)] 5)) := (((Below.refl _ w).alloc (Nat.le_refl _) _).alloc (by simp) _).alloc (by simp; omega) _
  have hsza : (((w.alloc (.cells #[.pointer (some ⟨b, 0, none⟩)] 37)).alloc (.cells #[.slice (some ⟨s2, 0, none⟩) (P.length + 1) (P.length + 1)] 83)).alloc (.cells #[.int .u8 (c.toNat : Int)] 5)).heap.size = w.heap.size + 3 := by simp
  obtain ⟨Wa, hWa⟩ : ∃ Wa, (((w.alloc (.cells #[.pointer (some ⟨b, 0, none⟩)] 37)).alloc (.cells #[.slice (some ⟨s2, 0, none⟩) (P.length + 1) (P.length + 1)] 83)).alloc (.cells #[.int .u8 (c.toNat : Int)] 5)) = Wa := ⟨_, rfl⟩
  rw [hWa] at hs2a bN bS bC hBa hsza
  rw [hWa]
  clear hWa
  have hcs := clear_set hs2a
  have hco := clear_only Wa s2 (P.length + 1) w.heap.size
  have hcb := fun k (hk : k ≠ s2) => (clear_only Wa s2 (P.length + 1) (k + 1)).block k (by omega) hk
  have hszc : (cleared Wa s2 (P.length + 1)).heap.size = w.heap.size + 3 := by rw [← hsza]; simp [cleared]
  obtain ⟨Wc, hWc⟩ : ∃ Wc, cleared Wa s2 (P.length + 1) = Wc := ⟨_, rfl⟩
  rw [hWc] at hcs hco hcb hszc
  rw [hWc]
  clear hWc
  rw [hszc]
  replace bN : Boxed Wc w.heap.size 37 (.pointer (some ⟨b, 0, none⟩)) := (hcb _ (by omega)).trans bN
  replace bS : Boxed Wc (w.heap.size + 1) 83 (.slice (some ⟨s2, 0, none⟩) (P.length + 1) (P.length + 1)) := (hcb _ (by omega)).trans bS
  replace bC : Boxed Wc (w.heap.size + 1 + 1) 5 (.int .u8 (c.toNat : Int)) := (hcb _ (by omega)).trans bC
  have hs1c : SetAt Wc s1 (P.length + 1) g := (hs1.below hBa hsl1).of_block (hcb s1 h12)
  have bI := Boxed.new Wc 83 (.slice (some ⟨s1, 0, none⟩) (P.length + 1) (P.length + 1))
  have hO : OnlyAt s2 w.heap.size w (Wc.alloc (.cells #[.slice (some ⟨s1, 0, none⟩) (P.length + 1) (P.length + 1)] 83)) := ((Below.onlyAt hBa).trans hco).alloc (by omega) _
  have hsz : (Wc.alloc (.cells #[.slice (some ⟨s1, 0, none⟩) (P.length + 1) (P.length + 1)] 83)).heap.size = w.heap.size + 4 := by simp [hszc]
  replace bN := bN.alloc (.cells #[.slice (some ⟨s1, 0, none⟩) (P.length + 1) (P.length + 1)] 83)
  replace bS := bS.alloc (.cells #[.slice (some ⟨s1, 0, none⟩) (P.length + 1) (P.length + 1)] 83)
  replace bC := bC.alloc (.cells #[.slice (some ⟨s1, 0, none⟩) (P.length + 1) (P.length + 1)] 83)
  have hs10 : SetAt (Wc.alloc (.cells #[.slice (some ⟨s1, 0, none⟩) (P.length + 1) (P.length + 1)] 83)) s1 (P.length + 1) g := World.rowIs.alloc hs1c _
  have hs20 : SetAt (Wc.alloc (.cells #[.slice (some ⟨s1, 0, none⟩) (P.length + 1) (P.length + 1)] 83)) s2 (P.length + 1) (fun _ => false) := World.rowIs.alloc hcs _
  rw [hszc] at bI
  obtain ⟨W0, hW0⟩ : ∃ W0, (Wc.alloc (.cells #[.slice (some ⟨s1, 0, none⟩) (P.length + 1) (P.length + 1)] 83)) = W0 := ⟨_, rfl⟩
  rw [hW0] at bN bS bC bI hO hsz hs10 hs20
  rw [hW0]
  clear hW0 hcs hco hcb hszc hs1c hBa hsza hs2a
  clear Wc Wa
  refine wpIn_rangeFunc_ownG rfl h1 (gf := 57) (lb := #[.pointer (some ⟨w.heap.size + 3, 0, none⟩)]) rfl trivial (enters_of Try.func57 (by kernel_rfl) rfl)
    (states_stops Fence.wide (n - 1) trivial rfl (by omega) (w.heap.size + 3) s1 (P.length + 1) (· = ·) (fun _ => rfl) (fun h k => h.trans k) g (by omega) W0 (by omega) bI.cell hs10) (keepsSet_t (R := (· = ·)) (fun h k => h.trans k)) (keepsSet_b (fun _ => rfl) (by omega)) (Below.refl _ _) (fun _ => rfl)
    (fun pre W => (SetAt W s2 (P.length + 1) (toF B c (pre.map Subtype.val)) ∧ Boxed W w.heap.size 37 (.pointer (some ⟨b, 0, none⟩)) ∧ Boxed W (w.heap.size + 1) 83 (.slice (some ⟨s2, 0, none⟩) (P.length + 1) (P.length + 1)) ∧ Boxed W (w.heap.size + 1 + 1) 5 (.int .u8 (c.toNat : Int))) ∧ OnlyAt s2 w.heap.size w W)
    (fun q pre W => ((q = .exit 0 ∧ ∃ (xs : List (St (P.length + 1))) (x : St (P.length + 1)), pre = xs ++ [x] ∧ x.1 = P.length) ∧ SetAt W s2 (P.length + 1) (toF B c (pre.map Subtype.val)) ∧ Boxed W w.heap.size 37 (.pointer (some ⟨b, 0, none⟩)) ∧ Boxed W (w.heap.size + 1) 83 (.slice (some ⟨s2, 0, none⟩) (P.length + 1) (P.length + 1))) ∧ OnlyAt s2 w.heap.size w W)
    (OwnFrom.and (Own.from (fun x A C row hx hg hr => ⟨setAt_own s2 (P.length + 1) (fun pre : List (St (P.length + 1)) => toF B c (pre.map Subtype.val)) x A C row hx.1 hg hr, boxed_own w.heap.size 37 (fun _ : Unit => .pointer (some ⟨b, 0, none⟩)) () A C row hx.2.1 hg hr, boxed_own (w.heap.size + 1) 83 (fun _ : Unit => .slice (some ⟨s2, 0, none⟩) (P.length + 1) (P.length + 1)) () A C row hx.2.2.1 hg hr, boxed_own (w.heap.size + 1 + 1) 5 (fun _ : Unit => .int .u8 (c.toNat : Int)) () A C row hx.2.2.2 hg hr⟩) _) (ownFrom_onlyAt (Nat.le_refl _) (by omega)))
    (fun q => OwnFrom.and (Own.from (fun (x : List (St (P.length + 1))) A C row hx hg hr => ⟨hx.1, setAt_own s2 (P.length + 1) (fun pre : List (St (P.length + 1)) => toF B c (pre.map Subtype.val)) x A C row hx.2.1 hg hr, boxed_own w.heap.size 37 (fun _ : Unit => .pointer (some ⟨b, 0, none⟩)) () A C row hx.2.2.1 hg hr, boxed_own (w.heap.size + 1) 83 (fun _ : Unit => .slice (some ⟨s2, 0, none⟩) (P.length + 1) (P.length + 1)) () A C row hx.2.2.2 hg hr⟩) _) (ownFrom_onlyAt (Nat.le_refl _) (by omega)))
    ⟨⟨hs20.congr (fun i _ => (toF_nil B c i).symm), bN, bS, bC⟩, hO⟩
    (fun x => { tmps := #[.pointer (some ⟨b, 0, none⟩), .slice (some ⟨s1, 0, none⟩) (P.length + 1) (P.length + 1), .slice (some ⟨s2, 0, none⟩) (P.length + 1) (P.length + 1), .int .u8 (c.toNat : Int), .pointer (some ⟨w.heap.size, 0, none⟩), undef, .pointer (some ⟨w.heap.size + 1, 0, none⟩), .pointer (some ⟨w.heap.size + 1 + 1, 0, none⟩), .int .i64 (x.1 : Int), .slice (some ⟨s2, 0, none⟩) (P.length + 1) (P.length + 1), .slice (some ⟨s1, 0, none⟩) (P.length + 1) (P.length + 1), .func (.func 57) #[] #[.pointer (some ⟨w.heap.size + 3, 0, none⟩)], .int .i64 (x.1 : Int), undef, undef, undef, undef, undef, undef, undef, undef, undef, undef, undef, undef, undef, undef, undef, undef, undef, undef, undef, undef, undef, undef, undef, undef, undef, undef], defers := [] }) ?assign ?body ?done ?stop
  case assign =>
    intro l x W K hK
    unfold encS
    gi_wp2
    exact hK
  case body =>
    rintro l pre x W ⟨⟨hsW, hbN, hbS, hbC⟩, hOW⟩ hlt
    have hoW : NfaAt W b P f := ho.same (hOW.block b hbl hbs)
    have cN := hbN.cell
    have cS := hbS.cell
    have cC := hbC.cell
    have c3 := hoW.c3
    rw [hB] at c3
    obtain ⟨S, hS⟩ : ∃ S, str B = S := ⟨_, rfl⟩
    rw [hS] at c3
    have hSz : S.size = P.length := by rw [← hS, str_size, hBl]
    have C2 := Lib.hid (callsIn_wide (n := n - 1 - 1 - 1).2 (end_any hoW))
    have hd : 1 ≤ n - 1 - 1 := by omega
    have hx := x.2
    have hkeep : ∀ (i : Nat), KeepsSet (· = ·) s1 (P.length + 1) W (W.setCell ⟨s2, i, none⟩ (.bool true)) := fun i g1 h1 => ⟨g1, h1.other _ _ h12, rfl⟩
    by_cases hxN : x.1 < P.length
    · have hin : x.1 < S.size := by omega
      have hz : ¬ ((x.1 : Int) = (P.length : Int)) := by omega
      have hBx : B[x.1]? = some (S[x.1]'hin) := by
        have e : B = S.data.toList := by rw [← hS, str_data]
        rw [e, List.getElem?_eq_getElem (by rw [← Lib.size_eq]; exact hin)]; rfl
      have hge : (((S[x.1]'hin).toNat : Int) == 42) = isStar B x.1 := by unfold isStar; rw [hBx]; exact byte_beq _ 42
      cases hb : isStar B x.1 with
      | true =>
        rw [hb] at hge
        have hcc := World.rowIs.cell hsW (i := x.1) (by omega)
        have hff := World.rowIs.frozen hsW x.1
        clear hS hSz hBl hBx
        replace hb := Lib.hid hb
        gi_wp2_with (refine ⟨trivial, ?_⟩; gi_at_call 44; refine (CallsIn.inRound l C2.out).mono ?_; rintro e w' ⟨rfl, rfl⟩)
        exact ⟨(KeepsOthers.setCell _ _ _).from _, hkeep _, ⟨(hsW.add _).congr (fun i _ => by rw [List.map_append]; exact (toF_star hb.out i).symm), boxed_other hbN _ _ (by show w.heap.size ≠ s2; omega), boxed_other hbS _ _ (by show w.heap.size + 1 ≠ s2; omega), boxed_other hbC _ _ (by show w.heap.size + 1 + 1 ≠ s2; omega)⟩, hOW.set _ _⟩
      | false =>
        rw [hb] at hge
        have hgo : goes B c x.1 = ((((S[x.1]'hin).toNat : Int) == 63) || (((S[x.1]'hin).toNat : Int) == (c.toNat : Int))) := by
          unfold goes
          rw [hb, hBx, decide_eq_true (by omega), b63, byte_beq]
          rfl
        have hcc := World.rowIs.cell hsW (i := x.1 + 1) (by omega)
        have hff := World.rowIs.frozen hsW (x.1 + 1)
        clear hS hSz hBl hBx
        replace hb := Lib.hid hb
        cases h63 : (((S[x.1]'hin).toNat : Int) == 63) with
        | true =>
          rw [h63] at hgo
          replace hgo := Lib.hid hgo
          gi_wp2_with (refine ⟨trivial, ?_⟩; gi_at_call 44; refine (CallsIn.inRound l C2.out).mono ?_; rintro e w' ⟨rfl, rfl⟩)
          exact ⟨(KeepsOthers.setCell _ _ _).from _, hkeep _, ⟨(hsW.add _).congr (fun i _ => by rw [List.map_append]; exact (toF_goes hb.out hgo.out i).symm), boxed_other hbN _ _ (by show w.heap.size ≠ s2; omega), boxed_other hbS _ _ (by show w.heap.size + 1 ≠ s2; omega), boxed_other hbC _ _ (by show w.heap.size + 1 + 1 ≠ s2; omega)⟩, hOW.set _ _⟩
        | false =>
          rw [h63] at hgo
          cases hcx : (((S[x.1]'hin).toNat : Int) == (c.toNat : Int)) with
          | true =>
            rw [hcx] at hgo
            replace hgo := Lib.hid hgo
            gi_wp2_with (refine ⟨trivial, ?_⟩; gi_at_call 44; refine (CallsIn.inRound l C2.out).mono ?_; rintro e w' ⟨rfl, rfl⟩)
            exact ⟨(KeepsOthers.setCell _ _ _).from _, hkeep _, ⟨(hsW.add _).congr (fun i _ => by rw [List.map_append]; exact (toF_goes hb.out hgo.out i).symm), boxed_other hbN _ _ (by show w.heap.size ≠ s2; omega), boxed_other hbS _ _ (by show w.heap.size + 1 ≠ s2; omega), boxed_other hbC _ _ (by show w.heap.size + 1 + 1 ≠ s2; omega)⟩, hOW.set _ _⟩
          | false =>
            rw [hcx] at hgo
            replace hgo := Lib.hid hgo
            gi_wp2_with (refine ⟨trivial, ?_⟩; gi_at_call 44; refine (CallsIn.inRound l C2.out).mono ?_; rintro e w' ⟨rfl, rfl⟩)
            exact ⟨KeepsFrom.refl _ _, fun g1 h1 => ⟨g1, h1, rfl⟩, ⟨hsW.congr (fun i _ => by rw [List.map_append]; exact (toF_none hb.out hgo.out i).symm), hbN, hbS, hbC⟩, hOW⟩
    · have hz : (x.1 : Int) = (P.length : Int) := by omega
      have hxe : x.1 = P.length := by omega
      have hb : isStar B x.1 = false := by unfold isStar; rw [List.getElem?_eq_none (by omega)]; rfl
      have hgo : goes B c x.1 = false := by unfold goes; rw [decide_eq_false (by omega)]; rfl
      replace hz := decide_eq_true hz
      replace hxe := Lib.hid hxe
      replace hb := Lib.hid hb
      replace hgo := Lib.hid hgo
      clear hS hSz
      replace hBl := Lib.hid hBl
      gi_wp2_with (refine ⟨trivial, ?_⟩; gi_at_call 44; refine (CallsIn.inRound l C2.out).mono ?_; rintro e w' ⟨rfl, rfl⟩)
      exact ⟨KeepsFrom.refl _ _, ⟨⟨rfl, _, _, rfl, hxe.out⟩, hsW.congr (fun i _ => by rw [List.map_append]; exact (toF_none hb.out hgo.out i).symm), hbN, hbS⟩, hOW⟩
  case done =>
    rintro D ys W hD hcm ⟨⟨hsW, hbN, hbS, hbC⟩, hOW⟩ hK
    rw [came_eq hcm] at hsW
    have hoW : NfaAt W b P f := ho.same (hOW.block b hbl hbs)
    have hmv : SetAt W s2 (P.length + 1) (mv B c g) := hsW.congr (fun i hi => toF_all i hi)
    have C3 := Lib.hid (takeClosure_in (n - 1) (by omega) b s2 P f (mv B c g) W hP hns hoW hmv)
    rw [hB] at C3
    unfold setV at C3
    have cN := hbN.cell
    have cS := hbS.cell
    have hDW : D < W.heap.size := (Array.getElem?_eq_some_iff.1 hK).1
    clear hsW hmv hbC
    gi_wp2_with (refine ⟨trivial, ?_⟩; gi_at_call 56; refine C3.out.mono ?_; rintro e W2 ⟨⟨v, rfl⟩, hs3, ho3⟩)
    have hK2 := (ho3.block D hDW (by omega)).trans hK
    have hw2 := ho3.size
    have hw1 := hOW.size
    refine ⟨by simp, .inl ⟨_, _, rfl, run_takeDeferred hK2, ?_⟩⟩
    refine ⟨_, results_none rfl _ _ _, ⟨_, rfl⟩, ?_, ?_⟩
    · rw [hB]
      exact hs3.of_block (World.putObj_heap_other (by omega))
    · exact (hOW.trans (ho3.mono hw1)).trans (onlyAt_b (w := W0) (by omega) W2 D _ _ (by omega) hK2)
  case stop =>
    rintro D q pre W hD ⟨k, hk, xs, g1, hcm, rfl, hgk, rfl⟩ ⟨⟨⟨rfl, xs', x, hpx, hxe⟩, hsW, hbN, hbS⟩, hOW⟩ hK
    have hke : k = P.length := by
      have := (List.append_inj' hpx rfl).2
      have e : (⟨k, hk⟩ : St (P.length + 1)) = x := by simpa using this
      rw [← hxe, ← e]
    subst hke
    have hall : (xs ++ [(⟨P.length, hk⟩ : St (P.length + 1))]).map Subtype.val = listF (P.length + 1) g := by
      rw [List.map_append, came_eq hcm, listF_succ, hgk]; rfl
    rw [hall] at hsW
    have hoW : NfaAt W b P f := ho.same (hOW.block b hbl hbs)
    have hmv : SetAt W s2 (P.length + 1) (mv B c g) := hsW.congr (fun i hi => toF_all i hi)
    have C3 := Lib.hid (takeClosure_in (n - 1) (by omega) b s2 P f (mv B c g) W hP hns hoW hmv)
    rw [hB] at C3
    unfold setV at C3
    have cN := hbN.cell
    have cS := hbS.cell
    have hDW : D < W.heap.size := (Array.getElem?_eq_some_iff.1 hK).1
    clear hsW hmv hpx hxe hall
    gi_wp2_with (refine ⟨trivial, ?_⟩; gi_at_call 56; refine C3.out.mono ?_; rintro e W2 ⟨⟨v, rfl⟩, hs3, ho3⟩)
    have hK2 := (ho3.block D hDW (by omega)).trans hK
    have hw2 := ho3.size
    have hw1 := hOW.size
    refine ⟨by simp, .inl ⟨_, _, rfl, run_takeDeferred hK2, ?_⟩⟩
    refine ⟨_, results_none rfl _ _ _, ⟨_, rfl⟩, ?_, ?_⟩
    · rw [hB]
      exact hs3.of_block (World.putObj_heap_other (by omega))
    · exact (hOW.trans (ho3.mono hw1)).trans (onlyAt_b (w := W0) (by omega) W2 D _ _ (by omega) hK2)
end Go.Proofs.Ytchobpfdmkgnoaa
