/-
  What is proved: takeClosure makes of a set in memory its closure: while the set is listed, what is added lies ahead in the list. Nothing else that lay in memory is changed.
-/
import Derived.Test.YtchobpfdmkgnoaaNfObj
namespace Go.Proofs.Ytchobpfdmkgnoaa
open Go.RowKit Go.Shelf
attribute [local go_sem] Oper.semAt_some

/-- Below block number B the world w' is as w was, but for block s. -/
structure OnlyAt (s B : Nat) (w w' : World) : Prop where
  os : w'.os = w.os
  tape : w'.tape = w.tape
  output : w'.output = w.output
  size : w.heap.size ≤ w'.heap.size
  block : ∀ k, k < B → k ≠ s → w'.heap[k]? = w.heap[k]?
theorem OnlyAt.refl (s B : Nat) (w : World) : OnlyAt s B w w := ⟨rfl, rfl, rfl, Nat.le_refl _, fun _ _ _ => rfl⟩
theorem OnlyAt.trans {s B : Nat} {a b c : World} (h : OnlyAt s B a b) (k : OnlyAt s B b c) : OnlyAt s B a c :=
  ⟨k.os.trans h.os, k.tape.trans h.tape, k.output.trans h.output, Nat.le_trans h.size k.size, fun i hi hs => (k.block i hi hs).trans (h.block i hi hs)⟩
theorem OnlyAt.mono {s B B' : Nat} {w w' : World} (h : OnlyAt s B w w') (hB : B' ≤ B) : OnlyAt s B' w w' := ⟨h.os, h.tape, h.output, h.size, fun k hk hs => h.block k (Nat.lt_of_lt_of_le hk hB) hs⟩
theorem Below.onlyAt {s B : Nat} {w w' : World} (h : Below B w w') : OnlyAt s B w w' := ⟨h.os, h.tape, h.output, h.size, fun k hk _ => h.block k hk⟩
theorem OnlyAt.below {s B B' : Nat} {w w' : World} (h : OnlyAt s B w w') (hs : B' ≤ s) (hB : B' ≤ B) : Below B' w w' := ⟨h.os, h.tape, h.output, h.size, fun k hk => h.block k (by omega) (by omega)⟩
theorem OnlyAt.set {s B : Nat} {a w : World} (h : OnlyAt s B a w) (i : Nat) (u : Value) : OnlyAt s B a (w.setCell ⟨s, i, none⟩ u) :=
  h.trans ⟨rfl, rfl, rfl, by simp [World.setCell], fun k _ hs => Below.heap_setCell _ _ _ _ hs⟩
theorem OnlyAt.alloc {s B : Nat} {a w : World} (h : OnlyAt s B a w) (hB : B ≤ w.heap.size) (o : Obj) : OnlyAt s B a (w.alloc o) := h.trans (Below.onlyAt ((Below.refl _ _).alloc hB o))
theorem OnlyAt.drew {s B : Nat} {a w : World} (h : OnlyAt s B a w) : OnlyAt s B a w.drew := h.trans (Below.onlyAt (Below.refl _ _).drew)
theorem ownFrom_onlyAt {β : Type} {n₀ B s : Nat} {w₀ : World} (hn : n₀ ≤ w₀.heap.size) (hB : n₀ ≤ B) : OwnFrom B (fun (_ : β) W => OnlyAt s n₀ w₀ W) := fun x W W' row hs hg hr =>
  hs.trans ⟨hg.os, hg.tape, hg.output, hg.size, fun k hk _ => hg.block k (by have := hs.size; omega) (fun e => by have := (hr k e.symm).1; omega)⟩
theorem onlyAt_b {s n₀ : Nat} {w : World} (hn : n₀ ≤ w.heap.size) (W : World) (l : Nat) (o o' : Obj) (hl : w.heap.size ≤ l) (_ : W.heap[l]? = some o) : OnlyAt s n₀ W (W.putObj l o') :=
  ⟨rfl, rfl, rfl, by simp [World.putObj], fun k hk _ => World.putObj_heap_other (by omega)⟩

/-- No two stars side by side. -/
def noSt (B : List UInt8) : Prop := ∀ i, isStar B i = true → isStar B (i + 1) = false
theorem noSt_cons {c : UInt8} {l : List UInt8} (h : noSt l) (hc : c = 42 → isStar l 0 = false) : noSt (c :: l) := by
  intro i hi
  cases i with
  | zero => exact hc (by simpa [isStar] using hi)
  | succ i => exact h i hi
theorem noSt_norm : ∀ (p : List UInt8) (b : Bool), noSt (normL b p) := by
  intro p
  induction p with
  | nil => intro b i hi; cases b <;> cases i <;> simp_all [normL, isStar]
  | cons c p ih =>
    intro b
    unfold normL
    split
    · exact ih true
    · rename_i h42
      split
      · exact noSt_cons (noSt_cons (ih false) (fun e => absurd e h42)) (fun _ => by simp [isStar, h42])
      · exact noSt_cons (ih b) (fun e => absurd e h42)
theorem star_cnt (f : Bool) (P : List UInt8) (i : Nat) : isStar (cntL f P) i = isStar P i := by
  unfold isStar
  rw [cntL_at]
  cases P[i]? with
  | none => rfl
  | some c =>
    cases f with
    | false => rfl
    | true =>
      apply bool_iff
      show (some (foldC c) == some 42) = true ↔ (some c == some 42) = true
      simp only [Option.some_beq_some, beq_iff_eq]
      rw [fold42]
theorem noSt_cnt {f : Bool} {P : List UInt8} (h : noSt P) : noSt (cntL f P) := fun i hi => by rw [star_cnt] at hi ⊢; exact h i hi

theorem clo_ge {B : List UInt8} {g : Nat → Bool} {i : Nat} (h : g i = true) : clo B g i = true := by
  cases i with
  | zero => exact h
  | succ i => simp [clo, h]
/-- What the rounds may add: positions behind a star. -/
def RC (B : List UInt8) (f g : Nat → Bool) : Prop := (∀ i, f i = true → g i = true) ∧ ∀ i, g i = true → f i = true ∨ (0 < i ∧ isStar B (i - 1) = true)
theorem rc_refl (B : List UInt8) (f : Nat → Bool) : RC B f f := ⟨fun _ h => h, fun _ h => .inl h⟩
theorem rc_trans {B : List UInt8} {f g h : Nat → Bool} (a : RC B f g) (b : RC B g h) : RC B f h :=
  ⟨fun i e => b.1 i (a.1 i e), fun i e => (b.2 i e).elim (a.2 i) .inr⟩
theorem rc_add {B : List UInt8} {g : Nat → Bool} {x : Nat} (h : isStar B x = true) : RC B g (fun j => if j = x + 1 then true else g j) :=
  ⟨fun i e => by simp only []; split <;> simp_all, fun i e => by
    by_cases ei : i = x + 1
    · subst ei; exact .inr ⟨by omega, by simpa using h⟩
    · simp only [if_neg ei] at e; exact .inl e⟩

def addF (B : List UInt8) (g : Nat → Bool) (l : List Nat) : Nat → Bool
  | 0 => g 0
  | j + 1 => g (j + 1) || (l.contains j && isStar B j)
theorem addF_nil (B : List UInt8) (g : Nat → Bool) (i : Nat) : addF B g [] i = g i := by cases i <;> simp [addF]
theorem addF_skip {B : List UInt8} {g : Nat → Bool} {l : List Nat} {x : Nat} (h : isStar B x = false) (i : Nat) : addF B g (l ++ [x]) i = addF B g l i := by
  cases i with
  | zero => rfl
  | succ j =>
    simp only [addF]
    by_cases e : j = x
    · subst e; rw [h]; simp
    · have : (l ++ [x]).contains j = l.contains j := by simp [e]
      rw [this]
theorem addF_hit {B : List UInt8} {g : Nat → Bool} {l : List Nat} {x : Nat} (h : isStar B x = true) (i : Nat) : addF B g (l ++ [x]) i = if i = x + 1 then true else addF B g l i := by
  cases i with
  | zero => rw [if_neg (by omega)]; rfl
  | succ j =>
    simp only [addF]
    by_cases e : j = x
    · subst e; rw [h]; simp
    · have : (l ++ [x]).contains j = l.contains j := by simp [e]
      rw [this, if_neg (by omega)]
theorem addF_end {B : List UInt8} (hns : noSt B) {g : Nat → Bool} {n : Nat} {xs : List (St n)} (h : Came (RC B) g n n xs) : ∀ i, i < n → addF B g (xs.map Subtype.val) i = clo B g i := by
  obtain ⟨h, e, hh⟩ := h
  rw [e]
  intro i hi
  cases i with
  | zero => rfl
  | succ j =>
    have hc : (listF n h).contains j = h j := by
      apply bool_iff
      rw [List.contains_iff_mem, mem_listF]
      exact ⟨fun e => e.2, fun e => ⟨by omega, e⟩⟩
    simp only [addF, clo]
    rw [hc]
    cases es : isStar B j with
    | false => simp
    | true =>
      obtain ⟨g', hr, eg⟩ := hh j (by omega)
      have h1 : h j = g j := by
        apply bool_iff
        rw [eg]
        refine ⟨fun e2 => (hr.2 j e2).elim id (fun e3 => ?_), hr.1 j⟩
        have := hns (j - 1) e3.2
        rw [show j - 1 + 1 = j by omega, es] at this
        cases this
      have h2 : clo B g j = g j := by
        cases j with
        | zero => rfl
        | succ m =>
          have : isStar B m = false := by
            cases e3 : isStar B m with
            | false => rfl
            | true => rw [hns m e3] at es; cases es
          simp [clo, this]
      rw [h1, h2]

theorem set_ne_obj {W : World} {b s n : Nat} {P : List UInt8} {f : Bool} {g : Nat → Bool} (h : NfaAt W b P f) (k : SetAt W s n g) : b ≠ s := by
  intro e
  subst e
  obtain ⟨c, hc, _⟩ := k
  rw [show W.heap[b]? = _ from h] at hc
  simp at hc

set_option maxRecDepth 100000 in
set_option maxHeartbeats 4000000 in
theorem takeClosure_in (n : Nat) (hn : 5 ≤ n) (b s : Nat) (P : List UInt8) (f : Bool) (g : Nat → Bool) (w : World) (hP : P.length ≤ 900000) (hns : noSt P) (ho : NfaAt w b P f) (hs : SetAt w s (P.length + 1) g) :
    CallsIn Fence.wide n Try.prog 56 #[.pointer (some ⟨b, 0, none⟩), setV s (P.length + 1)] w fun e W' =>
      (∃ v, e = .returned v) ∧ SetAt W' s (P.length + 1) (clo (cntL f P) g) ∧ OnlyAt s w.heap.size w W' := by
  have h1 : 1 ≤ n := by omega
  have hbs := set_ne_obj ho hs
  have hbl := ho.lt
  have hsl := hs.lt
  obtain ⟨B, hB⟩ : ∃ B, cntL f P = B := ⟨_, rfl⟩
  have hBl : B.length = P.length := by rw [← hB]; exact cntL_len f P
  have hnsB : noSt B := by rw [← hB]; exact noSt_cnt hns
  unfold setV
  refine callsIn_of_wp_marks Try.func56 rfl trivial ?_ rfl
  simp only [Try.ntmps56, List.size_toArray, List.length_cons, List.length_nil, Nat.reduceAdd, Nat.reduceSub, Array.replicate_succ, Array.replicate_zero, List.push_toArray, List.append_toArray, List.nil_append, List.cons_append]
  have C1 := Lib.hid (fun w => callsIn_wide (n := n - 1).2 (states_any (some ⟨s, 0, none⟩) (P.length + 1) (P.length + 1) w))
  gi_wp2_with (refine ⟨trivial, ?_⟩; gi_at_call 40; refine (C1.out _).mono ?_; rintro e w' ⟨rfl, rfl⟩)
  clear C1
  have bN := Boxed.new w 37 (.pointer (some ⟨b, 0, none⟩))
  have bS := Boxed.new (w.alloc (.cells #[.pointer (some ⟨b, 0, none⟩)] 37)) 83 (setV s (P.length + 1))
  have bI := Boxed.new ((w.alloc (.cells #[.pointer (some ⟨b, 0, none⟩)] 37)).alloc (.cells #[setV s (P.length + 1)] 83)) 83 (setV s (P.length + 1))
  rw [World.size_alloc] at bS
  rw [World.size_alloc, World.size_alloc] at bI
  unfold setV at bS bI
  obtain ⟨W0, hW0⟩ : ∃ W0, (((w.alloc (.cells #[.pointer (some ⟨b, 0, none⟩)] 37)).alloc (.cells #[.slice (some ⟨s, 0, none⟩) (P.length + 1) (P.length + 1)] 83)).alloc (.cells #[.slice (some ⟨s, 0, none⟩) (P.length + 1) (P.length + 1)] 83)) = W0 := ⟨_, rfl⟩
  have hsz : W0.heap.size = w.heap.size + 3 := by rw [← hW0]; simp
  have hB0 : Below w.heap.size w W0 := by rw [← hW0]; exact (((Below.refl _ w).alloc (Nat.le_refl _) _).alloc (by simp) _).alloc (by simp; omega) _
  replace bN : Boxed W0 w.heap.size 37 (.pointer (some ⟨b, 0, none⟩)) := by rw [← hW0]; exact (bN.alloc _).alloc _
  replace bS : Boxed W0 (w.heap.size + 1) 83 (.slice (some ⟨s, 0, none⟩) (P.length + 1) (P.length + 1)) := by rw [← hW0]; exact bS.alloc _
  rw [hW0] at bI
  rw [show w.heap.size + 1 + 1 = w.heap.size + 2 from rfl] at *
  rw [hW0]
  clear hW0
  have hs0 : SetAt W0 s (P.length + 1) g := hs.below hB0 hsl
  refine wpIn_rangeFunc_ownG rfl h1 (gf := 57) (lb := #[.pointer (some ⟨w.heap.size + 2, 0, none⟩)]) rfl trivial (enters_of Try.func57 (by kernel_rfl) rfl)
    (states_stops Fence.wide (n - 1) trivial rfl (by omega) (w.heap.size + 2) s (P.length + 1) (RC B) (rc_refl B) (fun h k => rc_trans h k) g (by omega) W0 (by omega) bI.cell hs0) (keepsSet_t (R := RC B) (fun h k => rc_trans h k)) (keepsSet_b (rc_refl B) (by omega)) (Below.refl _ _) (fun _ => rfl)
    (fun pre W => (SetAt W s (P.length + 1) (addF B g (pre.map Subtype.val)) ∧ Boxed W w.heap.size 37 (.pointer (some ⟨b, 0, none⟩)) ∧ Boxed W (w.heap.size + 1) 83 (.slice (some ⟨s, 0, none⟩) (P.length + 1) (P.length + 1))) ∧ OnlyAt s w.heap.size w W)
    (fun _ _ _ => False)
    (OwnFrom.and (Own.from (fun x A C row hx hg hr => ⟨setAt_own s (P.length + 1) (fun pre : List (St (P.length + 1)) => addF B g (pre.map Subtype.val)) x A C row hx.1 hg hr, boxed_own w.heap.size 37 (fun _ : Unit => .pointer (some ⟨b, 0, none⟩)) () A C row hx.2.1 hg hr, boxed_own (w.heap.size + 1) 83 (fun _ : Unit => .slice (some ⟨s, 0, none⟩) (P.length + 1) (P.length + 1)) () A C row hx.2.2 hg hr⟩) _) (ownFrom_onlyAt (Nat.le_refl _) (by omega)))
    (fun _ _ _ _ _ hs _ _ => hs)
    ⟨⟨hs0.congr (fun i _ => (addF_nil B g i).symm), bN, bS⟩, Below.onlyAt hB0⟩
    (fun x => { tmps := #[.pointer (some ⟨b, 0, none⟩), .slice (some ⟨s, 0, none⟩) (P.length + 1) (P.length + 1), .pointer (some ⟨w.heap.size, 0, none⟩), .pointer (some ⟨w.heap.size + 1, 0, none⟩), .int .i64 (x.1 : Int), .slice (some ⟨s, 0, none⟩) (P.length + 1) (P.length + 1), .func (.func 57) #[] #[.pointer (some ⟨w.heap.size + 2, 0, none⟩)], .int .i64 (x.1 : Int), undef, undef, undef, undef, undef, undef, undef, undef, undef, undef, undef, undef, undef, undef, undef, undef, undef], defers := [] }) ?assign ?body ?done ?stop
  case assign =>
    intro l x W K hK
    unfold encS
    gi_wp2
    exact hK
  case body =>
    rintro l pre x W ⟨⟨hsW, hbN, hbS⟩, hOW⟩ hlt
    have hoW : NfaAt W b P f := ho.same (hOW.block b hbl hbs)
    have cN := hbN.cell
    have cS := hbS.cell
    have c3 := hoW.c3
    rw [hB] at c3
    obtain ⟨S, hS⟩ : ∃ S, str B = S := ⟨_, rfl⟩
    rw [hS] at c3
    have hSz : S.size = P.length := by rw [← hS, str_size, hBl]
    have C2 := Lib.hid (callsIn_wide (n := n - 1 - 1 - 1).2 (end_any hoW))
    have hd : 1 ≤ n - 1 - 1 := by omega
    have hx := x.2
    by_cases hxN : x.1 < P.length
    · have hin : x.1 < S.size := by omega
      have hz : (x.1 : Int) < (P.length : Int) := by omega
      have hst : isStar B x.1 = (S[x.1]'hin == 42) := by
        unfold isStar
        have : B[x.1]? = some (S[x.1]'hin) := by
          have e : B = S.data.toList := by rw [← hS, str_data]
          rw [e, List.getElem?_eq_getElem (by rw [← Lib.size_eq]; exact hin)]; rfl
        rw [this]; rfl
      have hge : (((S[x.1]'hin).toNat : Int) == 42) = isStar B x.1 := by rw [hst]; exact byte_beq _ 42
      clear hst
      cases hb : isStar B x.1 with
      | true =>
        rw [hb] at hge
        have hcc := World.rowIs.cell hsW (i := x.1 + 1) (by omega)
        have hff := World.rowIs.frozen hsW (x.1 + 1)
        clear hS hSz hBl
        replace hb := Lib.hid hb
        gi_wp2_with (refine ⟨trivial, ?_⟩; gi_at_call 44; refine (CallsIn.inRound l C2.out).mono ?_; rintro e w' ⟨rfl, rfl⟩)
        refine ⟨(KeepsOthers.setCell _ _ _).from _, fun g1 h1 => ⟨_, h1.add _, rc_add hb.out⟩, ⟨⟨?_, ?_, ?_⟩, hOW.set _ _⟩⟩
        · exact (hsW.add _).congr (fun i _ => by rw [List.map_append]; exact (addF_hit hb.out i).symm)
        · exact boxed_other hbN _ _ (by show w.heap.size ≠ s; omega)
        · exact boxed_other hbS _ _ (by show w.heap.size + 1 ≠ s; omega)
      | false =>
        rw [hb] at hge
        clear hS hSz hBl
        replace hb := Lib.hid hb
        gi_wp2_with (refine ⟨trivial, ?_⟩; gi_at_call 44; refine (CallsIn.inRound l C2.out).mono ?_; rintro e w' ⟨rfl, rfl⟩)
        exact ⟨KeepsFrom.refl _ _, fun g1 h1 => ⟨g1, h1, rc_refl B g1⟩, ⟨hsW.congr (fun i _ => by rw [List.map_append]; exact (addF_skip hb.out i).symm), hbN, hbS⟩, hOW⟩
    · have hz : ¬ ((x.1 : Int) < (P.length : Int)) := by omega
      clear hS hSz
      replace hBl := Lib.hid hBl
      gi_wp2_with (refine ⟨trivial, ?_⟩; gi_at_call 44; refine (CallsIn.inRound l C2.out).mono ?_; rintro e w' ⟨rfl, rfl⟩)
      have hb : isStar B x.1 = false := by unfold isStar; rw [List.getElem?_eq_none (by rw [hBl.out]; omega)]; rfl
      exact ⟨KeepsFrom.refl _ _, fun g1 h1 => ⟨g1, h1, rc_refl B g1⟩, ⟨hsW.congr (fun i _ => by rw [List.map_append]; exact (addF_skip hb i).symm), hbN, hbS⟩, hOW⟩
  case done =>
    rintro D ys W hD hcm ⟨⟨hsW, hbN, hbS⟩, hOW⟩ hK
    have hfin := addF_end hnsB hcm
    gi_wp2
    have hsb := hOW.size
    refine ⟨by simp, .inl ⟨_, _, rfl, run_takeDeferred hK, ?_⟩⟩
    have hDs : D ≠ s := by omega
    refine ⟨_, results_none rfl _ _ _, ⟨_, rfl⟩, ?_, ?_⟩
    · rw [hB]
      exact ((hsW.congr hfin).of_block (World.putObj_heap_other (by omega)))
    · exact hOW.trans (onlyAt_b (w := W0) (by omega) W D _ _ (by omega) hK)
  case stop =>
    rintro D c pre W _ _ h _
    exact h.elim
end Go.Proofs.Ytchobpfdmkgnoaa
