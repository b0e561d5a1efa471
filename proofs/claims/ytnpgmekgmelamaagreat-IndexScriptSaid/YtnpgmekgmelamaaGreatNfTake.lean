/-
  What is proved: takeClosure makes of a set in memory its closure: while the set is listed, what is added lies ahead in the list. Nothing else that lay in memory is changed.
  What is proved: nfa.step fills a set in memory with the set after a byte. Nothing else that lay in memory is changed.
  What is proved: what nfa's walk and initial return: sets in memory of their own, after all bytes of a string, and at the start. What lay in memory before stands as it stood.
  What is proved: what nfa.New, Start, Step, Accepts and Run return, as sets of states (NfMath) and lists of numbers; at nil too. What lay in memory before stands as it stood.
  What is proved: what nfa.Step returns at any list of numbers and any byte: the list of the set after the byte (NfMath's stepF), from the states of the list. What lay in memory before stands as it stood.
-/
import Derived.Test.YtnpgmekgmelamaaGreatNfObj
import Derived.Laws.Tables
import Derived.Laws.IdiomStrings
namespace Go.Proofs.YtnpgmekgmelamaaGreat
open Go.RowKit Go.Shelf
attribute [local go_sem] Oper.semAt_some

/-- Below block number B the world w' is as w was, but for block s. -/
structure OnlyAt (s B : Nat) (w w' : World) : Prop where
  os : w'.os = w.os
  tape : w'.tape = w.tape
  output : w'.output = w.output
  size : w.heap.size ≤ w'.heap.size
  block : ∀ k, k < B → k ≠ s → w'.heap[k]? = w.heap[k]?
theorem OnlyAt.refl (s B : Nat) (w : World) : OnlyAt s B w w := ⟨rfl, rfl, rfl, Nat.le_refl _, fun _ _ _ => rfl⟩
theorem OnlyAt.trans {s B : Nat} {a b c : World} (h : OnlyAt s B a b) (k : OnlyAt s B b c) : OnlyAt s B a c :=
  ⟨k.os.trans h.os, k.tape.trans h.tape, k.output.trans h.output, Nat.le_trans h.size k.size, fun i hi hs => (k.block i hi hs).trans (h.block i hi hs)⟩
theorem OnlyAt.mono {s B B' : Nat} {w w' : World} (h : OnlyAt s B w w') (hB : B' ≤ B) : OnlyAt s B' w w' := ⟨h.os, h.tape, h.output, h.size, fun k hk hs => h.block k (Nat.lt_of_lt_of_le hk hB) hs⟩
theorem Below.onlyAt {s B : Nat} {w w' : World} (h : Below B w w') : OnlyAt s B w w' := ⟨h.os, h.tape, h.output, h.size, fun k hk _ => h.block k hk⟩
theorem OnlyAt.below {s B B' : Nat} {w w' : World} (h : OnlyAt s B w w') (hs : B' ≤ s) (hB : B' ≤ B) : Below B' w w' := ⟨h.os, h.tape, h.output, h.size, fun k hk => h.block k (by omega) (by omega)⟩
theorem OnlyAt.set {s B : Nat} {a w : World} (h : OnlyAt s B a w) (i : Nat) (u : Value) : OnlyAt s B a (w.setCell ⟨s, i, none⟩ u) :=
  h.trans ⟨rfl, rfl, rfl, by simp [World.setCell], fun k _ hs => Below.heap_setCell _ _ _ _ hs⟩
theorem OnlyAt.alloc {s B : Nat} {a w : World} (h : OnlyAt s B a w) (hB : B ≤ w.heap.size) (o : Obj) : OnlyAt s B a (w.alloc o) := h.trans (Below.onlyAt ((Below.refl _ _).alloc hB o))
theorem OnlyAt.drew {s B : Nat} {a w : World} (h : OnlyAt s B a w) : OnlyAt s B a w.drew := h.trans (Below.onlyAt (Below.refl _ _).drew)
theorem ownFrom_onlyAt {β : Type} {n₀ B s : Nat} {w₀ : World} (hn : n₀ ≤ w₀.heap.size) (hB : n₀ ≤ B) : OwnFrom B (fun (_ : β) W => OnlyAt s n₀ w₀ W) := fun x W W' row hs hg hr =>
  hs.trans ⟨hg.os, hg.tape, hg.output, hg.size, fun k hk _ => hg.block k (by have := hs.size; omega) (fun e => by have := (hr k e.symm).1; omega)⟩
theorem onlyAt_b {s n₀ : Nat} {w : World} (hn : n₀ ≤ w.heap.size) (W : World) (l : Nat) (o o' : Obj) (hl : w.heap.size ≤ l) (_ : W.heap[l]? = some o) : OnlyAt s n₀ W (W.putObj l o') :=
  ⟨rfl, rfl, rfl, by simp [World.putObj], fun k hk _ => World.putObj_heap_other (by omega)⟩

/-- No two stars side by side. -/
def noSt (B : List UInt8) : Prop := ∀ i, isStar B i = true → isStar B (i + 1) = false
theorem noSt_cons {c : UInt8} {l : List UInt8} (h : noSt l) (hc : c = 42 → isStar l 0 = false) : noSt (c :: l) := by
  intro i hi
  cases i with
  | zero => exact hc (by simpa [isStar] using hi)
  | succ i => exact h i hi
theorem noSt_norm : ∀ (p : List UInt8) (b : Bool), noSt (normL b p) := by
  intro p
  induction p with
  | nil => intro b i hi; cases b <;> cases i <;> simp_all [normL, isStar]
  | cons c p ih =>
    intro b
    unfold normL
    split
    · exact ih true
    · rename_i h42
      split
      · exact noSt_cons (noSt_cons (ih false) (fun e => absurd e h42)) (fun _ => by simp [isStar, h42])
      · exact noSt_cons (ih b) (fun e => absurd e h42)
theorem star_cnt (f : Bool) (P : List UInt8) (i : Nat) : isStar (cntL f P) i = isStar P i := by
  unfold isStar
  rw [cntL_at]
  cases P[i]? with
  | none => rfl
  | some c =>
    cases f with
    | false => rfl
    | true =>
      apply bool_iff
      show (some (foldC c) == some 42) = true ↔ (some c == some 42) = true
      simp only [Option.some_beq_some, beq_iff_eq]
      rw [fold42]
theorem noSt_cnt {f : Bool} {P : List UInt8} (h : noSt P) : noSt (cntL f P) := fun i hi => by rw [star_cnt] at hi ⊢; exact h i hi

theorem clo_ge {B : List UInt8} {g : Nat → Bool} {i : Nat} (h : g i = true) : clo B g i = true := by
  cases i with
  | zero => exact h
  | succ i => simp [clo, h]
/-- What the rounds may add: positions behind a star. -/
def RC (B : List UInt8) (f g : Nat → Bool) : Prop := (∀ i, f i = true → g i = true) ∧ ∀ i, g i = true → f i = true ∨ (0 < i ∧ isStar B (i - 1) = true)
theorem rc_refl (B : List UInt8) (f : Nat → Bool) : RC B f f := ⟨fun _ h => h, fun _ h => .inl h⟩
theorem rc_trans {B : List UInt8} {f g h : Nat → Bool} (a : RC B f g) (b : RC B g h) : RC B f h :=
  ⟨fun i e => b.1 i (a.1 i e), fun i e => (b.2 i e).elim (a.2 i) .inr⟩
theorem rc_add {B : List UInt8} {g : Nat → Bool} {x : Nat} (h : isStar B x = true) : RC B g (fun j => if j = x + 1 then true else g j) :=
  ⟨fun i e => by simp only []; split <;> simp_all, fun i e => by
    by_cases ei : i = x + 1
    · subst ei; exact .inr ⟨by omega, by simpa using h⟩
    · simp only [if_neg ei] at e; exact .inl e⟩

def addF (B : List UInt8) (g : Nat → Bool) (l : List Nat) : Nat → Bool
  | 0 => g 0
  | j + 1 => g (j + 1) || (l.contains j && isStar B j)
theorem addF_nil (B : List UInt8) (g : Nat → Bool) (i : Nat) : addF B g [] i = g i := by cases i <;> simp [addF]
theorem addF_skip {B : List UInt8} {g : Nat → Bool} {l : List Nat} {x : Nat} (h : isStar B x = false) (i : Nat) : addF B g (l ++ [x]) i = addF B g l i := by
  cases i with
  | zero => rfl
  | succ j =>
    simp only [addF]
    by_cases e : j = x
    · subst e; rw [h]; simp
    · have : (l ++ [x]).contains j = l.contains j := by simp [e]
      rw [this]
theorem addF_hit {B : List UInt8} {g : Nat → Bool} {l : List Nat} {x : Nat} (h : isStar B x = true) (i : Nat) : addF B g (l ++ [x]) i = if i = x + 1 then true else addF B g l i := by
  cases i with
  | zero => rw [if_neg (by omega)]; rfl
  | succ j =>
    simp only [addF]
    by_cases e : j = x
    · subst e; rw [h]; simp
    · have : (l ++ [x]).contains j = l.contains j := by simp [e]
      rw [this, if_neg (by omega)]
theorem addF_end {B : List UInt8} (hns : noSt B) {g : Nat → Bool} {n : Nat} {xs : List (St n)} (h : Came (RC B) g n n xs) : ∀ i, i < n → addF B g (xs.map Subtype.val) i = clo B g i := by
  obtain ⟨h, e, hh⟩ := h
  rw [e]
  intro i hi
  cases i with
  | zero => rfl
  | succ j =>
    have hc : (listF n h).contains j = h j := by
      apply bool_iff
      rw [List.contains_iff_mem, mem_listF]
      exact ⟨fun e => e.2, fun e => ⟨by omega, e⟩⟩
    simp only [addF, clo]
    rw [hc]
    cases es : isStar B j with
    | false => simp
    | true =>
      obtain ⟨g', hr, eg⟩ := hh j (by omega)
      have h1 : h j = g j := by
        apply bool_iff
        rw [eg]
        refine ⟨fun e2 => (hr.2 j e2).elim id (fun e3 => ?_), hr.1 j⟩
        have := hns (j - 1) e3.2
        rw [show j - 1 + 1 = j by omega, es] at this
        cases this
      have h2 : clo B g j = g j := by
        cases j with
        | zero => rfl
        | succ m =>
          have : isStar B m = false := by
            cases e3 : isStar B m with
            | false => rfl
            | true => rw [hns m e3] at es; cases es
          simp [clo, this]
      rw [h1, h2]

theorem set_ne_obj {W : World} {b s n : Nat} {P : List UInt8} {f : Bool} {g : Nat → Bool} (h : NfaAt W b P f) (k : SetAt W s n g) : b ≠ s := by
  intro e
  subst e
  obtain ⟨c, hc, _⟩ := k
  rw [show W.heap[b]? = _ from h] at hc
  simp at hc

set_option maxRecDepth 100000 in
set_option maxHeartbeats 4000000 in
theorem takeClosure_in (n : Nat) (hn : 5 ≤ n) (b s : Nat) (P : List UInt8) (f : Bool) (g : Nat → Bool) (w : World) (hP : P.length ≤ 900000) (hns : noSt P) (ho : NfaAt w b P f) (hs : SetAt w s (P.length + 1) g) :
    CallsIn Fence.wide n Tryz.prog 134 #[.pointer (some ⟨b, 0, none⟩), setV s (P.length + 1)] w fun e W' =>
      (∃ v, e = .returned v) ∧ SetAt W' s (P.length + 1) (clo (cntL f P) g) ∧ OnlyAt s w.heap.size w W' := by
  have h1 : 1 ≤ n := by omega
  have hbs := set_ne_obj ho hs
  have hbl := ho.lt
  have hsl := hs.lt
  obtain ⟨B, hB⟩ : ∃ B, cntL f P = B := ⟨_, rfl⟩
  have hBl : B.length = P.length := by rw [← hB]; exact cntL_len f P
  have hnsB : noSt B := by rw [← hB]; exact noSt_cnt hns
  unfold setV
  refine callsIn_of_wp_marks Tryz.func134 rfl trivial ?_ rfl
  simp only [Tryz.ntmps134, List.size_toArray, List.length_cons, List.length_nil, Nat.reduceAdd, Nat.reduceSub, Array.replicate_succ, Array.replicate_zero, List.push_toArray, List.append_toArray, List.nil_append, List.cons_append]
  have C1 := Lib.hid (fun w => callsIn_wide (n := n - 1).2 (states_any (some ⟨s, 0, none⟩) (P.length + 1) (P.length + 1) w))
  gi_wp2_with (refine ⟨trivial, ?_⟩; gi_at_call 114; refine (C1.out _).mono ?_; rintro e w' ⟨rfl, rfl⟩)
  clear C1
  have bN := Boxed.new w 72 (.pointer (some ⟨b, 0, none⟩))
  have bS := Boxed.new (w.alloc (.cells #[.pointer (some ⟨b, 0, none⟩)] 72)) 153 (setV s (P.length + 1))
  have bI := Boxed.new ((w.alloc (.cells #[.pointer (some ⟨b, 0, none⟩)] 72)).alloc (.cells #[setV s (P.length + 1)] 153)) 153 (setV s (P.length + 1))
  rw [World.size_alloc] at bS
  rw [World.size_alloc, World.size_alloc] at bI
  unfold setV at bS bI
  obtain ⟨W0, hW0⟩ : ∃ W0, (((w.alloc (.cells #[.pointer (some ⟨b, 0, none⟩)] 72)).alloc (.cells #[.slice (some ⟨s, 0, none⟩) (P.length + 1) (P.length + 1)] 153)).alloc (.cells #[.slice (some ⟨s, 0, none⟩) (P.length + 1) (P.length + 1)] 153)) = W0 := ⟨_, rfl⟩
  have hsz : W0.heap.size = w.heap.size + 3 := by rw [← hW0]; simp
  have hB0 : Below w.heap.size w W0 := by rw [← hW0]; exact (((Below.refl _ w).alloc (Nat.le_refl _) _).alloc (by simp) _).alloc (by simp; omega) _
  replace bN : Boxed W0 w.heap.size 72 (.pointer (some ⟨b, 0, none⟩)) := by rw [← hW0]; exact (bN.alloc _).alloc _
  replace bS : Boxed W0 (w.heap.size + 1) 153 (.slice (some ⟨s, 0, none⟩) (P.length + 1) (P.length + 1)) := by rw [← hW0]; exact bS.alloc _
  rw [hW0] at bI
  rw [show w.heap.size + 1 + 1 = w.heap.size + 2 from rfl] at *
  rw [hW0]
  clear hW0
  have hs0 : SetAt W0 s (P.length + 1) g := hs.below hB0 hsl
  refine wpIn_rangeFunc_ownG rfl h1 (gf := 135) (lb := #[.pointer (some ⟨w.heap.size + 2, 0, none⟩)]) rfl trivial (enters_of Tryz.func135 (by kernel_rfl) rfl)
    (states_stops Fence.wide (n - 1) trivial rfl (by omega) (w.heap.size + 2) s (P.length + 1) (RC B) (rc_refl B) (fun h k => rc_trans h k) g (by omega) W0 (by omega) bI.cell hs0) (keepsSet_t (R := RC B) (fun h k => rc_trans h k)) (keepsSet_b (rc_refl B) (by omega)) (Below.refl _ _) (fun _ => rfl)
    (fun pre W => (SetAt W s (P.length + 1) (addF B g (pre.map Subtype.val)) ∧ Boxed W w.heap.size 72 (.pointer (some ⟨b, 0, none⟩)) ∧ Boxed W (w.heap.size + 1) 153 (.slice (some ⟨s, 0, none⟩) (P.length + 1) (P.length + 1))) ∧ OnlyAt s w.heap.size w W)
    (fun _ _ _ => False)
    (OwnFrom.and (Own.from (fun x A C row hx hg hr => ⟨setAt_own s (P.length + 1) (fun pre : List (St (P.length + 1)) => addF B g (pre.map Subtype.val)) x A C row hx.1 hg hr, boxed_own w.heap.size 72 (fun _ : Unit => .pointer (some ⟨b, 0, none⟩)) () A C row hx.2.1 hg hr, boxed_own (w.heap.size + 1) 153 (fun _ : Unit => .slice (some ⟨s, 0, none⟩) (P.length + 1) (P.length + 1)) () A C row hx.2.2 hg hr⟩) _) (ownFrom_onlyAt (Nat.le_refl _) (by omega)))
    (fun _ _ _ _ _ hs _ _ => hs)
    ⟨⟨hs0.congr (fun i _ => (addF_nil B g i).symm), bN, bS⟩, Below.onlyAt hB0⟩
    (fun x => { tmps := #[.pointer (some ⟨b, 0, none⟩), .slice (some ⟨s, 0, none⟩) (P.length + 1) (P.length + 1), .pointer (some ⟨w.heap.size, 0, none⟩), .pointer (some ⟨w.heap.size + 1, 0, none⟩), .int .i64 (x.1 : Int), .slice (some ⟨s, 0, none⟩) (P.length + 1) (P.length + 1), .func (.func 135) #[] #[.pointer (some ⟨w.heap.size + 2, 0, none⟩)], .int .i64 (x.1 : Int), undef, undef, undef, undef, undef, undef, undef, undef, undef, undef, undef, undef, undef, undef, undef, undef, undef], defers := [] }) ?assign ?body ?done ?stop
  case assign =>
    intro l x W K hK
    unfold encS
    gi_wp2
    exact hK
  case body =>
    rintro l pre x W ⟨⟨hsW, hbN, hbS⟩, hOW⟩ hlt
    have hoW : NfaAt W b P f := ho.same (hOW.block b hbl hbs)
    have cN := hbN.cell
    have cS := hbS.cell
    have c3 := hoW.c3
    rw [hB] at c3
    obtain ⟨S, hS⟩ : ∃ S, str B = S := ⟨_, rfl⟩
    rw [hS] at c3
    have hSz : S.size = P.length := by rw [← hS, str_size, hBl]
    have C2 := Lib.hid (callsIn_wide (n := n - 1 - 1 - 1).2 (end_any hoW))
    have hd : 1 ≤ n - 1 - 1 := by omega
    have hx := x.2
    by_cases hxN : x.1 < P.length
    · have hin : x.1 < S.size := by omega
      have hz : (x.1 : Int) < (P.length : Int) := by omega
      have hst : isStar B x.1 = (S[x.1]'hin == 42) := by
        unfold isStar
        have : B[x.1]? = some (S[x.1]'hin) := by
          have e : B = S.data.toList := by rw [← hS, str_data]
          rw [e, List.getElem?_eq_getElem (by rw [← Lib.size_eq]; exact hin)]; rfl
        rw [this]; rfl
      have hge : (((S[x.1]'hin).toNat : Int) == 42) = isStar B x.1 := by rw [hst]; exact byte_beq _ 42
      clear hst
      cases hb : isStar B x.1 with
      | true =>
        rw [hb] at hge
        have hcc := World.rowIs.cell hsW (i := x.1 + 1) (by omega)
        have hff := World.rowIs.frozen hsW (x.1 + 1)
        clear hS hSz hBl
        replace hb := Lib.hid hb
        gi_wp2_with (refine ⟨trivial, ?_⟩; gi_at_call 118; refine (CallsIn.inRound l C2.out).mono ?_; rintro e w' ⟨rfl, rfl⟩)
        refine ⟨(KeepsOthers.setCell _ _ _).from _, fun g1 h1 => ⟨_, h1.add _, rc_add hb.out⟩, ⟨⟨?_, ?_, ?_⟩, hOW.set _ _⟩⟩
        · exact (hsW.add _).congr (fun i _ => by rw [List.map_append]; exact (addF_hit hb.out i).symm)
        · exact boxed_other hbN _ _ (by show w.heap.size ≠ s; omega)
        · exact boxed_other hbS _ _ (by show w.heap.size + 1 ≠ s; omega)
      | false =>
        rw [hb] at hge
        clear hS hSz hBl
        replace hb := Lib.hid hb
        gi_wp2_with (refine ⟨trivial, ?_⟩; gi_at_call 118; refine (CallsIn.inRound l C2.out).mono ?_; rintro e w' ⟨rfl, rfl⟩)
        exact ⟨KeepsFrom.refl _ _, fun g1 h1 => ⟨g1, h1, rc_refl B g1⟩, ⟨hsW.congr (fun i _ => by rw [List.map_append]; exact (addF_skip hb.out i).symm), hbN, hbS⟩, hOW⟩
    · have hz : ¬ ((x.1 : Int) < (P.length : Int)) := by omega
      clear hS hSz
      replace hBl := Lib.hid hBl
      gi_wp2_with (refine ⟨trivial, ?_⟩; gi_at_call 118; refine (CallsIn.inRound l C2.out).mono ?_; rintro e w' ⟨rfl, rfl⟩)
      have hb : isStar B x.1 = false := by unfold isStar; rw [List.getElem?_eq_none (by rw [hBl.out]; omega)]; rfl
      exact ⟨KeepsFrom.refl _ _, fun g1 h1 => ⟨g1, h1, rc_refl B g1⟩, ⟨hsW.congr (fun i _ => by rw [List.map_append]; exact (addF_skip hb i).symm), hbN, hbS⟩, hOW⟩
  case done =>
    rintro D ys W hD hcm ⟨⟨hsW, hbN, hbS⟩, hOW⟩ hK
    have hfin := addF_end hnsB hcm
    gi_wp2
    have hsb := hOW.size
    refine ⟨by simp, .inl ⟨_, _, rfl, run_takeDeferred hK, ?_⟩⟩
    have hDs : D ≠ s := by omega
    refine ⟨_, results_none rfl _ _ _, ⟨_, rfl⟩, ?_, ?_⟩
    · rw [hB]
      exact ((hsW.congr hfin).of_block (World.putObj_heap_other (by omega)))
    · exact hOW.trans (onlyAt_b (w := W0) (by omega) W D _ _ (by omega) hK)
  case stop =>
    rintro D c pre W _ _ h _
    exact h.elim
end Go.Proofs.YtnpgmekgmelamaaGreat

namespace Go.Proofs.YtnpgmekgmelamaaGreat
open Go.RowKit Go.Shelf
attribute [local go_sem] Oper.semAt_some

/-- The world with a set emptied. -/
noncomputable def cleared (W : World) (s n : Nat) : World := W.setRow s (List.replicate n (Value.bool false)).toArray
theorem clear_run {W : World} {s n : Nat} {g : Nat → Bool} (h : SetAt W s (n + 1) g) (ty : TypeId) :
    (Builtin.clear_ #[153] ty #[.slice (some ⟨s, 0, none⟩) (n + 1) (n + 1)]).run Tryz.prog W = .ok (.tuple #[]) (cleared W s (n + 1)) := by
  obtain ⟨c, hc, hn, _⟩ := h
  have hz : (Builtin.zeroCells #[Value.bool false] (n + 1)).toList = List.replicate (n + 1) (Value.bool false) := by
    apply List.ext_getElem
    · simp [Builtin.zeroCells]
    · intro i h1 h2
      simp [Builtin.zeroCells, Nat.mod_one]
  have hr := run_storeCells_from (P := Tryz.prog) s 4 (List.replicate (n + 1) (Value.bool false)) 0 c W hc (by simp [hn]) (by intro v hv; rw [List.eq_of_mem_replicate hv]; rfl)
  simp only [List.take_zero, List.nil_append] at hr
  have hv := Tryz.zeroValue4 W
  simp only [Builtin.clear_]
  simp [run_underlying Tryz.underlying153, hv, Value.cells, hz, hr, Result.andThen, cleared]
theorem clear_set {W : World} {s n : Nat} {g : Nat → Bool} (h : SetAt W s (n + 1) g) : SetAt (cleared W s (n + 1)) s (n + 1) (fun _ => false) := by
  obtain ⟨c, hc, hn, _⟩ := h
  refine ⟨(List.replicate (n + 1) (Value.bool false)).toArray, ?_, by simp, fun i hi => by simp [hi]⟩
  obtain ⟨hlt, hk⟩ := Array.getElem?_eq_some_iff.1 hc
  show (W.setRow s _).heap[s]? = _
  unfold World.setRow
  simp [Array.getElem?_modify, hc]
theorem clear_only (W : World) (s n B : Nat) : OnlyAt s B W (cleared W s n) :=
  ⟨rfl, rfl, rfl, by simp [cleared, World.setRow], fun k _ hk => by simp [cleared, World.setRow, Array.getElem?_modify, Ne.symm hk]⟩

def toF (B : List UInt8) (c : UInt8) (l : List Nat) : Nat → Bool
  | 0 => l.contains 0 && isStar B 0
  | j + 1 => (l.contains (j + 1) && isStar B (j + 1)) || (l.contains j && goes B c j)
theorem toF_nil (B : List UInt8) (c : UInt8) (i : Nat) : toF B c [] i = false := by cases i <;> simp [toF]
theorem has_snoc (l : List Nat) (x i : Nat) : (l ++ [x]).contains i = (l.contains i || decide (i = x)) := by
  by_cases e : i = x <;> simp [e]
theorem goes_star {B : List UInt8} {c : UInt8} {i : Nat} (h : isStar B i = true) : goes B c i = false := by unfold goes; rw [h]; simp
theorem toF_none {B : List UInt8} {c : UInt8} {l : List Nat} {x : Nat} (h1 : isStar B x = false) (h2 : goes B c x = false) (i : Nat) : toF B c (l ++ [x]) i = toF B c l i := by
  cases i with
  | zero =>
    simp only [toF, has_snoc]
    by_cases e : 0 = x
    · subst e; rw [h1]; simp
    · simp [e]
  | succ j =>
    simp only [toF, has_snoc]
    by_cases e : j + 1 = x
    · subst e; rw [h1]; simp
    · by_cases e2 : j = x
      · subst e2; rw [h2]; simp
      · simp [e, e2]
theorem toF_star {B : List UInt8} {c : UInt8} {l : List Nat} {x : Nat} (h1 : isStar B x = true) (i : Nat) : toF B c (l ++ [x]) i = if i = x then true else toF B c l i := by
  have h2 := goes_star (c := c) h1
  cases i with
  | zero =>
    simp only [toF, has_snoc]
    by_cases e : 0 = x
    · subst e; rw [h1]; simp
    · simp [e]
  | succ j =>
    simp only [toF, has_snoc]
    by_cases e : j + 1 = x
    · subst e; rw [h1]; simp
    · by_cases e2 : j = x
      · subst e2; rw [h2]; simp
      · simp [e, e2]
theorem toF_goes {B : List UInt8} {c : UInt8} {l : List Nat} {x : Nat} (h1 : isStar B x = false) (h2 : goes B c x = true) (i : Nat) : toF B c (l ++ [x]) i = if i = x + 1 then true else toF B c l i := by
  cases i with
  | zero =>
    simp only [toF, has_snoc]
    by_cases e : 0 = x
    · subst e; rw [h1]; simp
    · simp [e]
  | succ j =>
    simp only [toF, has_snoc]
    by_cases e : j + 1 = x
    · subst e; rw [h1]; simp
    · by_cases e2 : j = x
      · subst e2; rw [h2]; simp
      · simp [e, e2]
theorem b63 (c : UInt8) : ((c.toNat : Int) == 63) = (c == 63) := byte_beq c 63
theorem toF_all {B : List UInt8} {c : UInt8} {g : Nat → Bool} {n : Nat} (i : Nat) (hi : i < n) : toF B c (listF n g) i = mv B c g i := by
  have hc : ∀ j, j < n → (listF n g).contains j = g j := fun j hj => by
    apply bool_iff
    rw [List.contains_iff_mem, mem_listF]
    exact ⟨fun e => e.2, fun e => ⟨hj, e⟩⟩
  cases i with
  | zero => simp only [toF, mv]; rw [hc 0 hi]
  | succ j => simp only [toF, mv]; rw [hc _ hi, hc j (by omega)]

set_option maxRecDepth 100000 in
set_option maxHeartbeats 4000000 in
theorem step_in (n : Nat) (hn : 7 ≤ n) (b s1 s2 : Nat) (P : List UInt8) (f : Bool) (c : UInt8) (g g2 : Nat → Bool) (w : World) (hP : P.length ≤ 900000) (hns : noSt P) (ho : NfaAt w b P f) (hs1 : SetAt w s1 (P.length + 1) g) (hs2 : SetAt w s2 (P.length + 1) g2) (h12 : s1 ≠ s2) :
    CallsIn Fence.wide n Tryz.prog 137 #[.pointer (some ⟨b, 0, none⟩), setV s1 (P.length + 1), setV s2 (P.length + 1), .int .u8 (c.toNat : Int)] w fun e W' =>
      (∃ v, e = .returned v) ∧ SetAt W' s2 (P.length + 1) (stepF (cntL f P) c g) ∧ OnlyAt s2 w.heap.size w W' := by
  have h1 : 1 ≤ n := by omega
  have hbs := set_ne_obj ho hs2
  have hbl := ho.lt
  have hsl1 := hs1.lt
  have hsl2 := hs2.lt
  obtain ⟨B, hB⟩ : ∃ B, cntL f P = B := ⟨_, rfl⟩
  have hBl : B.length = P.length := by rw [← hB]; exact cntL_len f P
  unfold setV
  have hs2a : SetAt (((w.alloc (.cells #[.pointer (some ⟨b, 0, none⟩)] 72)).alloc (.cells #[.slice (some ⟨s2, 0, none⟩) (P.length + 1) (P.length + 1)] 153)).alloc (.cells #[.int .u8 (c.toNat : Int)] 5)) s2 (P.length + 1) g2 := ((World.rowIs.alloc hs2 _).alloc _).alloc _
  have hclr := clear_run hs2a
  refine callsIn_of_wp_marks Tryz.func137 rfl trivial ?_ rfl
  simp only [Tryz.ntmps137, List.size_toArray, List.length_cons, List.length_nil, Nat.reduceAdd, Nat.reduceSub, Array.replicate_succ, Array.replicate_zero, List.push_toArray, List.append_toArray, List.nil_append, List.cons_append]
  have C1 := Lib.hid (fun w => callsIn_wide (n := n - 1).2 (states_any (some ⟨s1, 0, none⟩) (P.length + 1) (P.length + 1) w))
  gi_wp2_with (refine ⟨trivial, ?_⟩; gi_at_call 114; refine (C1.out _).mono ?_; rintro e w' ⟨rfl, rfl⟩)
  clear C1 hclr
  have bN := Boxed.new w 72 (.pointer (some ⟨b, 0, none⟩))
  have bS := Boxed.new (w.alloc (.cells #[.pointer (some ⟨b, 0, none⟩)] 72)) 153 (.slice (some ⟨s2, 0, none⟩) (P.length + 1) (P.length + 1))
  have bC := Boxed.new ((w.alloc (.cells #[.pointer (some ⟨b, 0, none⟩)] 72)).alloc (.cells #[.slice (some ⟨s2, 0, none⟩) (P.length + 1) (P.length + 1)] 153)) 5 (.int .u8 (c.toNat : Int))
  rw [World.size_alloc] at bS
  rw [World.size_alloc, World.size_alloc] at bC
  replace bN := (bN.alloc (.cells #[.slice (some ⟨s2, 0, none⟩) (P.length + 1) (P.length + 1)] 153)).alloc (.cells #[.int .u8 (c.toNat : Int)] 5)
  replace bS := bS.alloc (.cells #[.int .u8 (c.toNat : Int)] 5)
  have hBa : Below w.heap.size w (((w.alloc (.cells #[.pointer (some ⟨b, 0, none⟩)] 72)).alloc (.cells #[.slice (some ⟨s2, 0, none⟩) (P.length + 1) (P.length + 1)] 153)).alloc (.cells #[.int .u8 (c.toNat : Int)] 5)) := (((Below.refl _ w).alloc (Nat.le_refl _) _).alloc (by simp) _).alloc (by simp; omega) _
  have hsza : (((w.alloc (.cells #[.pointer (some ⟨b, 0, none⟩)] 72)).alloc (.cells #[.slice (some ⟨s2, 0, none⟩) (P.length + 1) (P.length + 1)] 153)).alloc (.cells #[.int .u8 (c.toNat : Int)] 5)).heap.size = w.heap.size + 3 := by simp
  obtain ⟨Wa, hWa⟩ : ∃ Wa, (((w.alloc (.cells #[.pointer (some ⟨b, 0, none⟩)] 72)).alloc (.cells #[.slice (some ⟨s2, 0, none⟩) (P.length + 1) (P.length + 1)] 153)).alloc (.cells #[.int .u8 (c.toNat : Int)] 5)) = Wa := ⟨_, rfl⟩
  rw [hWa] at hs2a bN bS bC hBa hsza
  rw [hWa]
  clear hWa
  have hcs := clear_set hs2a
  have hco := clear_only Wa s2 (P.length + 1) w.heap.size
  have hcb := fun k (hk : k ≠ s2) => (clear_only Wa s2 (P.length + 1) (k + 1)).block k (by omega) hk
  have hszc : (cleared Wa s2 (P.length + 1)).heap.size = w.heap.size + 3 := by rw [← hsza]; simp [cleared]
  obtain ⟨Wc, hWc⟩ : ∃ Wc, cleared Wa s2 (P.length + 1) = Wc := ⟨_, rfl⟩
  rw [hWc] at hcs hco hcb hszc
  rw [hWc]
  clear hWc
  rw [hszc]
  replace bN : Boxed Wc w.heap.size 72 (.pointer (some ⟨b, 0, none⟩)) := (hcb _ (by omega)).trans bN
  replace bS : Boxed Wc (w.heap.size + 1) 153 (.slice (some ⟨s2, 0, none⟩) (P.length + 1) (P.length + 1)) := (hcb _ (by omega)).trans bS
  replace bC : Boxed Wc (w.heap.size + 1 + 1) 5 (.int .u8 (c.toNat : Int)) := (hcb _ (by omega)).trans bC
  have hs1c : SetAt Wc s1 (P.length + 1) g := (hs1.below hBa hsl1).of_block (hcb s1 h12)
  have bI := Boxed.new Wc 153 (.slice (some ⟨s1, 0, none⟩) (P.length + 1) (P.length + 1))
  have hO : OnlyAt s2 w.heap.size w (Wc.alloc (.cells #[.slice (some ⟨s1, 0, none⟩) (P.length + 1) (P.length + 1)] 153)) := ((Below.onlyAt hBa).trans hco).alloc (by omega) _
  have hsz : (Wc.alloc (.cells #[.slice (some ⟨s1, 0, none⟩) (P.length + 1) (P.length + 1)] 153)).heap.size = w.heap.size + 4 := by simp [hszc]
  replace bN := bN.alloc (.cells #[.slice (some ⟨s1, 0, none⟩) (P.length + 1) (P.length + 1)] 153)
  replace bS := bS.alloc (.cells #[.slice (some ⟨s1, 0, none⟩) (P.length + 1) (P.length + 1)] 153)
  replace bC := bC.alloc (.cells #[.slice (some ⟨s1, 0, none⟩) (P.length + 1) (P.length + 1)] 153)
  have hs10 : SetAt (Wc.alloc (.cells #[.slice (some ⟨s1, 0, none⟩) (P.length + 1) (P.length + 1)] 153)) s1 (P.length + 1) g := World.rowIs.alloc hs1c _
  have hs20 : SetAt (Wc.alloc (.cells #[.slice (some ⟨s1, 0, none⟩) (P.length + 1) (P.length + 1)] 153)) s2 (P.length + 1) (fun _ => false) := World.rowIs.alloc hcs _
  rw [hszc] at bI
  obtain ⟨W0, hW0⟩ : ∃ W0, (Wc.alloc (.cells #[.slice (some ⟨s1, 0, none⟩) (P.length + 1) (P.length + 1)] 153)) = W0 := ⟨_, rfl⟩
  rw [hW0] at bN bS bC bI hO hsz hs10 hs20
  rw [hW0]
  clear hW0 hcs hco hcb hszc hs1c hBa hsza hs2a
  clear Wc Wa
  refine wpIn_rangeFunc_ownG rfl h1 (gf := 135) (lb := #[.pointer (some ⟨w.heap.size + 3, 0, none⟩)]) rfl trivial (enters_of Tryz.func135 (by kernel_rfl) rfl)
    (states_stops Fence.wide (n - 1) trivial rfl (by omega) (w.heap.size + 3) s1 (P.length + 1) (· = ·) (fun _ => rfl) (fun h k => h.trans k) g (by omega) W0 (by omega) bI.cell hs10) (keepsSet_t (R := (· = ·)) (fun h k => h.trans k)) (keepsSet_b (fun _ => rfl) (by omega)) (Below.refl _ _) (fun _ => rfl)
    (fun pre W => (SetAt W s2 (P.length + 1) (toF B c (pre.map Subtype.val)) ∧ Boxed W w.heap.size 72 (.pointer (some ⟨b, 0, none⟩)) ∧ Boxed W (w.heap.size + 1) 153 (.slice (some ⟨s2, 0, none⟩) (P.length + 1) (P.length + 1)) ∧ Boxed W (w.heap.size + 1 + 1) 5 (.int .u8 (c.toNat : Int))) ∧ OnlyAt s2 w.heap.size w W)
    (fun q pre W => ((q = .exit 0 ∧ ∃ (xs : List (St (P.length + 1))) (x : St (P.length + 1)), pre = xs ++ [x] ∧ x.1 = P.length) ∧ SetAt W s2 (P.length + 1) (toF B c (pre.map Subtype.val)) ∧ Boxed W w.heap.size 72 (.pointer (some ⟨b, 0, none⟩)) ∧ Boxed W (w.heap.size + 1) 153 (.slice (some ⟨s2, 0, none⟩) (P.length + 1) (P.length + 1))) ∧ OnlyAt s2 w.heap.size w W)
    (OwnFrom.and (Own.from (fun x A C row hx hg hr => ⟨setAt_own s2 (P.length + 1) (fun pre : List (St (P.length + 1)) => toF B c (pre.map Subtype.val)) x A C row hx.1 hg hr, boxed_own w.heap.size 72 (fun _ : Unit => .pointer (some ⟨b, 0, none⟩)) () A C row hx.2.1 hg hr, boxed_own (w.heap.size + 1) 153 (fun _ : Unit => .slice (some ⟨s2, 0, none⟩) (P.length + 1) (P.length + 1)) () A C row hx.2.2.1 hg hr, boxed_own (w.heap.size + 1 + 1) 5 (fun _ : Unit => .int .u8 (c.toNat : Int)) () A C row hx.2.2.2 hg hr⟩) _) (ownFrom_onlyAt (Nat.le_refl _) (by omega)))
    (fun q => OwnFrom.and (Own.from (fun (x : List (St (P.length + 1))) A C row hx hg hr => ⟨hx.1, setAt_own s2 (P.length + 1) (fun pre : List (St (P.length + 1)) => toF B c (pre.map Subtype.val)) x A C row hx.2.1 hg hr, boxed_own w.heap.size 72 (fun _ : Unit => .pointer (some ⟨b, 0, none⟩)) () A C row hx.2.2.1 hg hr, boxed_own (w.heap.size + 1) 153 (fun _ : Unit => .slice (some ⟨s2, 0, none⟩) (P.length + 1) (P.length + 1)) () A C row hx.2.2.2 hg hr⟩) _) (ownFrom_onlyAt (Nat.le_refl _) (by omega)))
    ⟨⟨hs20.congr (fun i _ => (toF_nil B c i).symm), bN, bS, bC⟩, hO⟩
    (fun x => { tmps := #[.pointer (some ⟨b, 0, none⟩), .slice (some ⟨s1, 0, none⟩) (P.length + 1) (P.length + 1), .slice (some ⟨s2, 0, none⟩) (P.length + 1) (P.length + 1), .int .u8 (c.toNat : Int), .pointer (some ⟨w.heap.size, 0, none⟩), undef, .pointer (some ⟨w.heap.size + 1, 0, none⟩), .pointer (some ⟨w.heap.size + 1 + 1, 0, none⟩), .int .i64 (x.1 : Int), .slice (some ⟨s2, 0, none⟩) (P.length + 1) (P.length + 1), .slice (some ⟨s1, 0, none⟩) (P.length + 1) (P.length + 1), .func (.func 135) #[] #[.pointer (some ⟨w.heap.size + 3, 0, none⟩)], .int .i64 (x.1 : Int), undef, undef, undef, undef, undef, undef, undef, undef, undef, undef, undef, undef, undef, undef, undef, undef, undef, undef, undef, undef, undef, undef, undef, undef, undef, undef], defers := [] }) ?assign ?body ?done ?stop
  case assign =>
    intro l x W K hK
    unfold encS
    gi_wp2
    exact hK
  case body =>
    rintro l pre x W ⟨⟨hsW, hbN, hbS, hbC⟩, hOW⟩ hlt
    have hoW : NfaAt W b P f := ho.same (hOW.block b hbl hbs)
    have cN := hbN.cell
    have cS := hbS.cell
    have cC := hbC.cell
    have c3 := hoW.c3
    rw [hB] at c3
    obtain ⟨S, hS⟩ : ∃ S, str B = S := ⟨_, rfl⟩
    rw [hS] at c3
    have hSz : S.size = P.length := by rw [← hS, str_size, hBl]
    have C2 := Lib.hid (callsIn_wide (n := n - 1 - 1 - 1).2 (end_any hoW))
    have hd : 1 ≤ n - 1 - 1 := by omega
    have hx := x.2
    have hkeep : ∀ (i : Nat), KeepsSet (· = ·) s1 (P.length + 1) W (W.setCell ⟨s2, i, none⟩ (.bool true)) := fun i g1 h1 => ⟨g1, h1.other _ _ h12, rfl⟩
    by_cases hxN : x.1 < P.length
    · have hin : x.1 < S.size := by omega
      have hz : ¬ ((x.1 : Int) = (P.length : Int)) := by omega
      have hBx : B[x.1]? = some (S[x.1]'hin) := by
        have e : B = S.data.toList := by rw [← hS, str_data]
        rw [e, List.getElem?_eq_getElem (by rw [← Lib.size_eq]; exact hin)]; rfl
      have hge : (((S[x.1]'hin).toNat : Int) == 42) = isStar B x.1 := by unfold isStar; rw [hBx]; exact byte_beq _ 42
      cases hb : isStar B x.1 with
      | true =>
        rw [hb] at hge
        have hcc := World.rowIs.cell hsW (i := x.1) (by omega)
        have hff := World.rowIs.frozen hsW x.1
        clear hS hSz hBl hBx
        replace hb := Lib.hid hb
        gi_wp2_with (refine ⟨trivial, ?_⟩; gi_at_call 118; refine (CallsIn.inRound l C2.out).mono ?_; rintro e w' ⟨rfl, rfl⟩)
        exact ⟨(KeepsOthers.setCell _ _ _).from _, hkeep _, ⟨(hsW.add _).congr (fun i _ => by rw [List.map_append]; exact (toF_star hb.out i).symm), boxed_other hbN _ _ (by show w.heap.size ≠ s2; omega), boxed_other hbS _ _ (by show w.heap.size + 1 ≠ s2; omega), boxed_other hbC _ _ (by show w.heap.size + 1 + 1 ≠ s2; omega)⟩, hOW.set _ _⟩
      | false =>
        rw [hb] at hge
        have hgo : goes B c x.1 = ((((S[x.1]'hin).toNat : Int) == 63) || (((S[x.1]'hin).toNat : Int) == (c.toNat : Int))) := by
          unfold goes
          rw [hb, hBx, decide_eq_true (by omega), b63, byte_beq]
          rfl
        have hcc := World.rowIs.cell hsW (i := x.1 + 1) (by omega)
        have hff := World.rowIs.frozen hsW (x.1 + 1)
        clear hS hSz hBl hBx
        replace hb := Lib.hid hb
        cases h63 : (((S[x.1]'hin).toNat : Int) == 63) with
        | true =>
          rw [h63] at hgo
          replace hgo := Lib.hid hgo
          gi_wp2_with (refine ⟨trivial, ?_⟩; gi_at_call 118; refine (CallsIn.inRound l C2.out).mono ?_; rintro e w' ⟨rfl, rfl⟩)
          exact ⟨(KeepsOthers.setCell _ _ _).from _, hkeep _, ⟨(hsW.add _).congr (fun i _ => by rw [List.map_append]; exact (toF_goes hb.out hgo.out i).symm), boxed_other hbN _ _ (by show w.heap.size ≠ s2; omega), boxed_other hbS _ _ (by show w.heap.size + 1 ≠ s2; omega), boxed_other hbC _ _ (by show w.heap.size + 1 + 1 ≠ s2; omega)⟩, hOW.set _ _⟩
        | false =>
          rw [h63] at hgo
          cases hcx : (((S[x.1]'hin).toNat : Int) == (c.toNat : Int)) with
          | true =>
            rw [hcx] at hgo
            replace hgo := Lib.hid hgo
            gi_wp2_with (refine ⟨trivial, ?_⟩; gi_at_call 118; refine (CallsIn.inRound l C2.out).mono ?_; rintro e w' ⟨rfl, rfl⟩)
            exact ⟨(KeepsOthers.setCell _ _ _).from _, hkeep _, ⟨(hsW.add _).congr (fun i _ => by rw [List.map_append]; exact (toF_goes hb.out hgo.out i).symm), boxed_other hbN _ _ (by show w.heap.size ≠ s2; omega), boxed_other hbS _ _ (by show w.heap.size + 1 ≠ s2; omega), boxed_other hbC _ _ (by show w.heap.size + 1 + 1 ≠ s2; omega)⟩, hOW.set _ _⟩
          | false =>
            rw [hcx] at hgo
            replace hgo := Lib.hid hgo
            gi_wp2_with (refine ⟨trivial, ?_⟩; gi_at_call 118; refine (CallsIn.inRound l C2.out).mono ?_; rintro e w' ⟨rfl, rfl⟩)
            exact ⟨KeepsFrom.refl _ _, fun g1 h1 => ⟨g1, h1, rfl⟩, ⟨hsW.congr (fun i _ => by rw [List.map_append]; exact (toF_none hb.out hgo.out i).symm), hbN, hbS, hbC⟩, hOW⟩
    · have hz : (x.1 : Int) = (P.length : Int) := by omega
      have hxe : x.1 = P.length := by omega
      have hb : isStar B x.1 = false := by unfold isStar; rw [List.getElem?_eq_none (by omega)]; rfl
      have hgo : goes B c x.1 = false := by unfold goes; rw [decide_eq_false (by omega)]; rfl
      replace hz := decide_eq_true hz
      replace hxe := Lib.hid hxe
      replace hb := Lib.hid hb
      replace hgo := Lib.hid hgo
      clear hS hSz
      replace hBl := Lib.hid hBl
      gi_wp2_with (refine ⟨trivial, ?_⟩; gi_at_call 118; refine (CallsIn.inRound l C2.out).mono ?_; rintro e w' ⟨rfl, rfl⟩)
      exact ⟨KeepsFrom.refl _ _, ⟨⟨rfl, _, _, rfl, hxe.out⟩, hsW.congr (fun i _ => by rw [List.map_append]; exact (toF_none hb.out hgo.out i).symm), hbN, hbS⟩, hOW⟩
  case done =>
    rintro D ys W hD hcm ⟨⟨hsW, hbN, hbS, hbC⟩, hOW⟩ hK
    rw [came_eq hcm] at hsW
    have hoW : NfaAt W b P f := ho.same (hOW.block b hbl hbs)
    have hmv : SetAt W s2 (P.length + 1) (mv B c g) := hsW.congr (fun i hi => toF_all i hi)
    have C3 := Lib.hid (takeClosure_in (n - 1) (by omega) b s2 P f (mv B c g) W hP hns hoW hmv)
    rw [hB] at C3
    unfold setV at C3
    have cN := hbN.cell
    have cS := hbS.cell
    have hDW : D < W.heap.size := (Array.getElem?_eq_some_iff.1 hK).1
    clear hsW hmv hbC
    gi_wp2_with (refine ⟨trivial, ?_⟩; gi_at_call 134; refine C3.out.mono ?_; rintro e W2 ⟨⟨v, rfl⟩, hs3, ho3⟩)
    have hK2 := (ho3.block D hDW (by omega)).trans hK
    have hw2 := ho3.size
    have hw1 := hOW.size
    refine ⟨by simp, .inl ⟨_, _, rfl, run_takeDeferred hK2, ?_⟩⟩
    refine ⟨_, results_none rfl _ _ _, ⟨_, rfl⟩, ?_, ?_⟩
    · rw [hB]
      exact hs3.of_block (World.putObj_heap_other (by omega))
    · exact (hOW.trans (ho3.mono hw1)).trans (onlyAt_b (w := W0) (by omega) W2 D _ _ (by omega) hK2)
  case stop =>
    rintro D q pre W hD ⟨k, hk, xs, g1, hcm, rfl, hgk, rfl⟩ ⟨⟨⟨rfl, xs', x, hpx, hxe⟩, hsW, hbN, hbS⟩, hOW⟩ hK
    have hke : k = P.length := by
      have := (List.append_inj' hpx rfl).2
      have e : (⟨k, hk⟩ : St (P.length + 1)) = x := by simpa using this
      rw [← hxe, ← e]
    subst hke
    have hall : (xs ++ [(⟨P.length, hk⟩ : St (P.length + 1))]).map Subtype.val = listF (P.length + 1) g := by
      rw [List.map_append, came_eq hcm, listF_succ, hgk]; rfl
    rw [hall] at hsW
    have hoW : NfaAt W b P f := ho.same (hOW.block b hbl hbs)
    have hmv : SetAt W s2 (P.length + 1) (mv B c g) := hsW.congr (fun i hi => toF_all i hi)
    have C3 := Lib.hid (takeClosure_in (n - 1) (by omega) b s2 P f (mv B c g) W hP hns hoW hmv)
    rw [hB] at C3
    unfold setV at C3
    have cN := hbN.cell
    have cS := hbS.cell
    have hDW : D < W.heap.size := (Array.getElem?_eq_some_iff.1 hK).1
    clear hsW hmv hpx hxe hall
    gi_wp2_with (refine ⟨trivial, ?_⟩; gi_at_call 134; refine C3.out.mono ?_; rintro e W2 ⟨⟨v, rfl⟩, hs3, ho3⟩)
    have hK2 := (ho3.block D hDW (by omega)).trans hK
    have hw2 := ho3.size
    have hw1 := hOW.size
    refine ⟨by simp, .inl ⟨_, _, rfl, run_takeDeferred hK2, ?_⟩⟩
    refine ⟨_, results_none rfl _ _ _, ⟨_, rfl⟩, ?_, ?_⟩
    · rw [hB]
      exact hs3.of_block (World.putObj_heap_other (by omega))
    · exact (hOW.trans (ho3.mono hw1)).trans (onlyAt_b (w := W0) (by omega) W2 D _ _ (by omega) hK2)
end Go.Proofs.YtnpgmekgmelamaaGreat

namespace Go.Proofs.YtnpgmekgmelamaaGreat
open Go.RowKit Go.Shelf

theorem info_bool : (Tryz.prog.info? 4).map (fun i => (i.zero, i.size, i.bytes)) = some (some (.bool false), 1, 1) := by kernel_rfl
theorem make_set (n : Nat) (hn : n ≤ 1000000) (w : World) :
    (Instr.makeSlice 153 (.int .i64 (n : Int)) (.int .i64 (n : Int))).run Tryz.prog w = .ok (.slice (some ⟨w.heap.size, 0, none⟩) n n) (w.alloc (.cells (madeCells #[.bool false] n) 4)) :=
  run_make_row' (P := Tryz.prog) 153 4 (.bool false) 1 Tryz.underlying153 info_bool rfl .i64 .i64 n (by omega) (by omega) w
theorem set_made (w : World) (n : Nat) : SetAt (w.alloc (.cells (madeCells #[.bool false] n) 4)) w.heap.size n (fun _ => false) := World.rowIs_made w (.bool false) n 4

set_option maxHeartbeats 1000000 in
theorem initial_any {w : World} {b : Nat} {P : List UInt8} {f : Bool} (ho : NfaAt w b P f) (hP : P.length ≤ 900000) (hns : noSt P) :
    Calls Tryz.prog 113 #[.pointer (some ⟨b, 0, none⟩)] w fun e w' => e = .returned (setV w.heap.size (P.length + 1)) ∧ SetAt w' w.heap.size (P.length + 1) (startF (cntL f P)) ∧ Below w.heap.size w w' := by
  have hmk := make_set (P.length + 1) (by omega)
  rw [show ((P.length + 1 : Nat) : Int) = (P.length : Int) + 1 from rfl] at hmk
  have C1 := Lib.hid (sizes_any ho (by omega))
  have hs0 := set_made w (P.length + 1)
  have hcc := World.rowIs.cell hs0 (i := 0) (by omega)
  have hff := World.rowIs.frozen hs0 0
  have hs1 := (hs0.add 0).congr (h := fun i => decide (i = 0)) (fun i _ => by by_cases e : i = 0 <;> simp [e])
  have hB1 : Below w.heap.size w ((w.alloc (.cells (madeCells #[.bool false] (P.length + 1)) 4)).setCell ⟨w.heap.size, 0, none⟩ (.bool true)) := ((Below.refl _ w).alloc (Nat.le_refl _) _).setCell (p := ⟨w.heap.size, 0, none⟩) (Nat.le_refl _) _
  have C2 := Lib.hid (callsIn_wide.1 (takeClosure_in 5 (by omega) b w.heap.size P f (fun i => decide (i = 0)) _ hP hns (ho.below hB1 ho.lt) hs1))
  unfold setV at C2
  unfold setV
  replace hB1 := Lib.hid hB1
  clear hs0 hs1
  go_enter Tryz.func113, Tryz.ntmps113
  go_wp2_with (go_at_call 133; refine C1.out.mono ?_; rintro e w' ⟨rfl, rfl⟩)
  rw [← World.setCell_alloc_new]
  refine C2.out.mono ?_
  rintro e w2 ⟨⟨v, rfl⟩, hs3, ho3⟩
  go_wp2
  go_ret
  exact ⟨rfl, hs3, hB1.out.trans (ho3.below (Nat.le_refl _) (by have := hB1.out.size; exact this))⟩

/-- Between two rounds: the set after the first k bytes, and a second one. -/
structure WInv (w wr : World) (b s n : Nat) (P : List UInt8) (f : Bool) (A N : Nat) (r : Nat → Bool) : Prop where
  setA : SetAt wr A n r
  setN : ∃ g, SetAt wr N n g
  ne : A ≠ N
  only : OnlyAt s w.heap.size w wr
  hA : A = s ∨ w.heap.size ≤ A
  hN : N = s ∨ w.heap.size ≤ N

theorem step_enters : ∀ args w, (callFunc 137 args).run Tryz.prog w = .ok (.enter 137 args) w := enters_of Tryz.func137 (by kernel_rfl) rfl

theorem winv_step {w wr w2 : World} {b s n : Nat} {P : List UInt8} {f : Bool} {A N : Nat} {r r' : Nat → Bool} (h : WInv w wr b s n P f A N r) (hs : SetAt w2 N n r') (ho : OnlyAt N wr.heap.size wr w2) : WInv w w2 b s n P f N A r' := by
  refine ⟨hs, ⟨r, h.setA.of_block (ho.block A h.setA.lt h.ne)⟩, Ne.symm h.ne, ?_, h.hN, h.hA⟩
  refine h.only.trans ?_
  have hsz := h.only.size
  rcases h.hN with e | e
  · subst e; exact ho.mono hsz
  · exact Below.onlyAt (ho.below e hsz)

set_option maxHeartbeats 2000000 in
theorem walk_any {w : World} {b s : Nat} {P : List UInt8} {f : Bool} {g : Nat → Bool} (t : ByteArray) (ht : t.size ≤ 1000000) (ho : NfaAt w b P f) (hP : P.length ≤ 900000) (hns : noSt P) (hs : SetAt w s (P.length + 1) g) :
    Calls Tryz.prog 136 #[setV s (P.length + 1), .string t, .func (.func 137) #[.pointer (some ⟨b, 0, none⟩)] #[]] w fun e w' =>
      ∃ r, e = .returned (setV r (P.length + 1)) ∧ SetAt w' r (P.length + 1) (runF (cntL f P) t.data.toList g) ∧ OnlyAt s w.heap.size w w' ∧ (r = s ∨ w.heap.size ≤ r) := by
  have hmk := make_set (P.length + 1) (by omega)
  rw [show ((P.length + 1 : Nat) : Int) = (P.length : Int) + 1 from rfl] at hmk
  obtain ⟨B, hB⟩ : ∃ B, cntL f P = B := ⟨_, rfl⟩
  rw [hB]
  have HB := Lib.hid hB
  clear hB
  have hbs := set_ne_obj ho hs
  have hbl := ho.lt
  have hsl := hs.lt
  have HT := Lib.hid (Lib.size_eq t)
  have hW0 : WInv w (w.alloc (.cells (madeCells #[.bool false] (P.length + 1)) 4)) b s (P.length + 1) P f s w.heap.size (runF B (t.data.toList.take 0) g) :=
    ⟨by rw [List.take_zero]; exact World.rowIs.alloc hs _, ⟨_, set_made w (P.length + 1)⟩, by omega, Below.onlyAt ((Below.refl _ w).alloc (Nat.le_refl _) _), .inl rfl, .inr (Nat.le_refl _)⟩
  replace hW0 := Lib.hid hW0
  have hen := step_enters
  have hmf : ∀ (fn : Fn) (first cap : Array Value) (w : World), (Instr.makeFunc fn first cap).run Tryz.prog w = .ok (.func fn first cap) w := fun _ _ _ _ => rfl
  unfold setV
  go_enter Tryz.func136, Tryz.ntmps136
  go_wp2
  go_loopg [0, 7, 14] t.size (fun gk s0 s7 s14 wr => ∃ k A N : Nat, k + gk = t.size ∧ s0 = .slice (some ⟨A, 0, none⟩) (P.length + 1) (P.length + 1) ∧ s7 = .slice (some ⟨N, 0, none⟩) (P.length + 1) (P.length + 1) ∧ s14 = .int .i64 k ∧ Hid (WInv w wr b s (P.length + 1) P f A N (runF B (t.data.toList.take k) g)))
  case atStart => exact ⟨0, s, w.heap.size, by omega, rfl, rfl, rfl, hW0⟩
  case round =>
    obtain ⟨k, A, N, hkg, rfl, rfl, rfl, HI⟩ := hrel
    clear hW0
    cases gk with
    | zero =>
      have hkz : ¬ ((k : Int) < (t.size : Int)) := by omega
      have hkt : Hid (t.data.toList.take k = t.data.toList) := Lib.hid (List.take_of_length_le (by rw [← HT.out]; omega))
      go_wp2
      go_ret
      refine ⟨A, rfl, ?_, HI.out.only, HI.out.hA⟩
      have := HI.out.setA
      rw [hkt.out] at this
      exact this
    | succ g' =>
      have hkz : (k : Int) < (t.size : Int) := by omega
      have hin : k < t.size := by omega
      obtain ⟨g2, hg2⟩ := HI.out.setN
      have hstep : Hid (t.data.toList.take (k + 1) = t.data.toList.take k ++ [t[k]'hin]) := Lib.hid (by
        rw [List.take_add_one, List.getElem?_eq_getElem (by rw [← HT.out]; exact hin)]; rfl)
      obtain ⟨c, hc⟩ : ∃ c : UInt8, t[k]'hin = c := ⟨_, rfl⟩
      rw [hc] at hstep
      have C := Lib.hid (callsIn_wide.1 (step_in 7 (by omega) b A N P f c _ g2 wr hP hns (ho.same (HI.out.only.block b hbl hbs)) HI.out.setA hg2 HI.out.ne))
      unfold setV at C
      clear hg2
      go_wp2_with (go_at_fn 137; refine C.out.mono ?_; rintro e w2 ⟨⟨v, rfl⟩, hs3, ho3⟩)
      go_roundg g'
      case measure => omega
      case rel => exact ⟨k + 1, N, A, by omega, rfl, rfl, iv (by omega), Lib.hid (winv_step HI.out (by rw [hstep.out, runF_snoc, ← HB.out]; exact (HB.out ▸ hs3)) ho3)⟩
end Go.Proofs.YtnpgmekgmelamaaGreat

namespace Go.Proofs.YtnpgmekgmelamaaGreat
open Go.RowKit Go.Shelf

/-! Lists of numbers in memory -/
def Ints (W : World) (v : Value) (zs : List Int) : Prop :=
  (v = .slice none 0 0 ∧ zs = []) ∨ (∃ a cap, v = .slice (some a) 0 cap ∧ zs = []) ∨ ∃ b off cap, v = .slice (some ⟨b, off, none⟩) zs.length cap ∧ b < W.heap.size ∧ ∀ j, j < zs.length → W.cell? ⟨b, off + j, none⟩ = some (.int .i64 (zs.getD j 0))
theorem Ints.below {W W' : World} {v : Value} {zs : List Int} (h : Ints W v zs) (hb : Below W.heap.size W W') : Ints W' v zs := by
  rcases h with h | h | ⟨b, off, cap, e, hlt, hc⟩
  · exact .inl h
  · exact .inr (.inl h)
  · exact .inr (.inr ⟨b, off, cap, e, by have := hb.size; omega, fun j hj => (hb.cell (p := ⟨b, off + j, none⟩) hlt).trans (hc j hj)⟩)
/-- A list's cells, wherever what lay in memory stands. -/
theorem Ints.reads {w : World} {v : Value} {zs : List Int} (hv : Ints w v zs) : ∃ a cap, v = .slice a zs.length cap ∧ Hid (∀ W, Below w.heap.size w W → ∀ k, k < zs.length → ∃ b' off, a = some ⟨b', off, none⟩ ∧ W.cell? ⟨b', off + k, none⟩ = some (.int .i64 (zs.getD k 0))) := by
  rcases hv with ⟨rfl, rfl⟩ | ⟨a, cap, rfl, rfl⟩ | ⟨b', off, cap, rfl, hlt, hc⟩
  · exact ⟨none, 0, rfl, Lib.hid (fun _ _ k hk => absurd hk (Nat.not_lt_zero k))⟩
  · exact ⟨some a, cap, rfl, Lib.hid (fun _ _ k hk => absurd hk (Nat.not_lt_zero k))⟩
  · exact ⟨_, cap, rfl, Lib.hid (fun W hW k hk => ⟨b', off, rfl, (hW.cell (p := ⟨b', off + k, none⟩) hlt).trans (hc k hk)⟩)⟩
theorem Ints.of_own {W : World} {B k : Nat} {v : Value} {zs : List Int} (h : W.ownsRow B 3 1 v k (zs.map (Value.int .i64))) : Ints W v zs := by
  obtain ⟨hl, h⟩ := h
  have hk : k = zs.length := by simpa using hl.symm
  subst hk
  rcases h with ⟨rfl, h0⟩ | ⟨g, cap, cur, rfl, _, hg, _, _, _, ht⟩
  · exact .inl ⟨rfl, by simpa using h0⟩
  · refine .inr (.inr ⟨g, 0, cap, rfl, (Array.getElem?_eq_some_iff.1 hg).1, fun j hj => by
    have : cur[j]? = some (.int .i64 (zs.getD j 0)) := by
      have e : (cur.toList.take (zs.length * 1))[j]? = (zs.map (Value.int .i64))[j]? := by rw [ht]
      rw [List.getElem?_take_of_lt (by omega), List.getElem?_map, List.getElem?_eq_getElem hj] at e
      rw [Array.getElem?_toList] at e
      rw [e]
      simp [List.getD, hj]
    simp only [Nat.zero_add, World.cell?, hg]
    exact this⟩)
theorem own_base {W : World} {B B' k : Nat} {t : TypeId} {v : Value} {xs : List Value} (h : W.ownsRow B t 1 v k xs) (hB : B' ≤ B) : W.ownsRow B' t 1 v k xs := by
  obtain ⟨hl, h⟩ := h
  refine ⟨hl, ?_⟩
  rcases h with h | ⟨g, cap, cur, e, hb, r⟩
  · exact .inl h
  · exact .inr ⟨g, cap, cur, e, by omega, r⟩

theorem obj_set {W : World} {b i : Nat} {c : Array Value} {t : TypeId} {fr : Nat × Nat} (v : Value) (h : W.heap[b]? = some (.cells c t fr)) : (W.setCell ⟨b, i, none⟩ v).heap[b]? = some (.cells (c.setIfInBounds i v) t fr) := by
  rw [setCell_eq_setRow W b i c t fr v h]; exact setRow_heap W b c _ t fr h

/-! New -/
theorem check_pos {s : ByteArray} (h : checkN s.size = 0) : 0 < s.size ∧ s.size ≤ 255 := by
  unfold checkN at h
  split at h
  · cases h
  · split at h
    · cases h
    · omega

theorem new_not (p : ByteArray) (f : Bool) (w : World) (h : checkN p.size ≠ 0) :
    Calls Tryz.prog 44 #[.string p, .bool f] w fun e w' => e = .returned (.tuple #[.pointer none, .int .i64 (checkN p.size)]) ∧ w' = w := by
  have C := Lib.hid (check_any p w)
  obtain ⟨k, hk⟩ : ∃ k, checkN p.size = k := ⟨_, rfl⟩
  rw [hk] at C h
  rw [hk]
  clear hk
  go_enter Tryz.func44, Tryz.ntmps44
  go_wp2_with (go_at_call 21; refine C.out.mono ?_; rintro e w' ⟨rfl, rfl⟩)
  go_ret2
  exact ⟨rfl, rfl⟩

/-- What New makes of p. -/
def normP (p : ByteArray) : List UInt8 := normL false p.data.toList
theorem normP_len (p : ByteArray) : (normP p).length ≤ p.size := by
  have := norm_len p.data.toList false
  rw [Lib.size_eq]
  simpa [normP] using this
theorem normP_no (p : ByteArray) : noSt (normP p) := noSt_norm _ _

set_option maxHeartbeats 2000000 in
theorem new_any (p : ByteArray) (f : Bool) (w : World) (h : checkN p.size = 0) :
    Calls Tryz.prog 44 #[.string p, .bool f] w fun e w' => ∃ b, e = .returned (.tuple #[.pointer (some ⟨b, 0, none⟩), .int .i64 0]) ∧ w.heap.size ≤ b ∧ NfaAt w' b (normP p) f ∧ Below w.heap.size w w' := by
  have hsz := (check_pos h).2
  have hnl := normP_len p
  have C := Lib.hid (check_any p w)
  rw [h] at C
  have C2 := Lib.hid (norm_any p w (by omega))
  have e2 : normL false p.data.toList = normP p := rfl
  rw [e2] at C2
  obtain ⟨P, hP⟩ : ∃ P, normP p = P := ⟨_, rfl⟩
  rw [hP] at C2 hnl
  rw [hP]
  clear hP e2 h
  have C3 : Hid (∀ (W : World) (b : Nat), W.cell? ⟨b, 2, none⟩ = some (.bool f) → Calls Tryz.prog 80 #[.pointer (some ⟨b, 0, none⟩), .string (str P)] W fun e w' => e = .returned (.string (str (cntL f P))) ∧ Below W.heap.size W w') :=
    Lib.hid (fun W b hc => by have := counted_any hc (str P) (by rw [str_size]; omega); rwa [str_data] at this)
  go_enter Tryz.func44, Tryz.ntmps44
  go_wp2_with (go_at_call 21; refine C.out.mono ?_; rintro e w' ⟨rfl, rfl⟩)
  refine C2.out.mono ?_
  rintro e w1 ⟨rfl, hb1⟩
  go_wp2_with fail
  have hblk : (w1.alloc (.cells #[.pointer none, .string (str P), .bool f, .string ⟨#[]⟩] 125)).heap[w1.heap.size]? = some (.cells #[.pointer none, .string (str P), .bool f, .string ⟨#[]⟩] 125 (0, 0)) := World.alloc_heap_new w1 _
  have hba : Below w'.heap.size w' (w1.alloc (.cells #[.pointer none, .string (str P), .bool f, .string ⟨#[]⟩] 125)) := hb1.alloc hb1.size _
  have hsa : (w1.alloc (.cells #[.pointer none, .string (str P), .bool f, .string ⟨#[]⟩] 125)).heap.size = w1.heap.size + 1 := by simp
  refine (C3.out _ _ (by unfold World.cell?; rw [hblk]; rfl)).mono ?_
  rintro e w2 ⟨rfl, hb2⟩
  have hblk2 := (hb2.block w1.heap.size (by omega)).trans hblk
  have hb3 := hba.trans (hb2.mono (by have := hb1.size; omega))
  have hsz1 := hb1.size
  clear hblk hba hsa hb2 C C2 C3 hb1
  obtain ⟨b, hb⟩ : ∃ b, w1.heap.size = b := ⟨_, rfl⟩
  rw [hb] at hblk2 hsz1
  rw [hb]
  clear hb
  have c3 : w2.cell? ⟨b, 3, none⟩ = some (.string ⟨#[]⟩) := by simp [World.cell?, hblk2]
  have f3 : w2.frozen? ⟨b, 3, none⟩ = false := by simp [World.frozen?, hblk2]
  have c0 : w2.cell? ⟨b, 0, none⟩ = some (.pointer none) := by simp [World.cell?, hblk2]
  have f0 : w2.frozen? ⟨b, 0, none⟩ = false := by simp [World.frozen?, hblk2]
  have hfin : NfaAt ((w2.setCell ⟨b, 3, none⟩ (.string (str (cntL f P)))).setCell ⟨b, 0, none⟩ (.pointer (some ⟨b, 0, none⟩))) b P f := by
    have := obj_set (i := 0) (.pointer (some ⟨b, 0, none⟩)) (obj_set (i := 3) (.string (str (cntL f P))) hblk2)
    simpa [NfaAt] using this
  have hfb := (hb3.setCell (p := ⟨b, 3, none⟩) hsz1 (.string (str (cntL f P)))).setCell (p := ⟨b, 0, none⟩) hsz1 (.pointer (some ⟨b, 0, none⟩))
  replace hfin := Lib.hid hfin
  replace hfb := Lib.hid hfb
  clear hblk2
  go_wp2
  go_ret2
  exact ⟨b, rfl, hsz1, hfin.out, hfb.out⟩

/-! Start -/
set_option maxHeartbeats 1000000 in
theorem start_own {w : World} {b : Nat} {P : List UInt8} {f : Bool} (ho : NfaAt w b P f) (hP : P.length ≤ 900000) (hns : noSt P) :
    Calls Tryz.prog 83 #[.pointer (some ⟨b, 0, none⟩)] w fun e w' => ∃ v, e = .returned v ∧ w'.ownsRow w.heap.size 3 1 v (intsF (P.length + 1) (startF (cntL f P))).length ((intsF (P.length + 1) (startF (cntL f P))).map (Value.int .i64)) ∧ Below w.heap.size w w' := by
  obtain ⟨B, hB⟩ : ∃ B, cntL f P = B := ⟨_, rfl⟩
  have C := Lib.hid (isMade_any ho)
  have C1 := Lib.hid (initial_any ho hP hns)
  have C2 := Lib.hid (fun (s : Nat) w => states_any (some ⟨s, 0, none⟩) (P.length + 1) (P.length + 1) w)
  rw [hB] at C1
  rw [hB]
  unfold setV at C1
  have hNl : P.length + 1 ≤ 1000000 := by omega
  go_enter Tryz.func83, Tryz.ntmps83
  go_wp2_with (go_at_call 112; refine C.out.mono ?_; rintro e w' ⟨rfl, rfl⟩)
  refine C1.out.mono ?_
  rintro e w1 ⟨rfl, hs1, hb1⟩
  have C3 := Lib.hid (collect_any w1.heap.size w'.heap.size (P.length + 1) _ hNl (w1.alloc (.cells #[.slice (some ⟨w'.heap.size, 0, none⟩) (P.length + 1) (P.length + 1)] 153)) (by simp) (Boxed.new w1 153 _).cell (World.rowIs.alloc hs1 _))
  go_wp2_with (go_at_call 114; refine (C2.out _ _).mono ?_; rintro e w2 ⟨rfl, rfl⟩)
  refine C3.out.mono ?_
  rintro e w3 ⟨v, rfl, hr, hb3⟩
  have hb4 := hb1.alloc hb1.size (.cells #[.slice (some ⟨w'.heap.size, 0, none⟩) (P.length + 1) (P.length + 1)] 153)
  have hb5 := hb4.trans (hb3.mono hb4.size)
  go_wp2
  go_ret
  exact ⟨v, rfl, own_base hr (by have := hb1.size; simp; omega), hb5⟩
theorem start_any {w : World} {b : Nat} {P : List UInt8} {f : Bool} (ho : NfaAt w b P f) (hP : P.length ≤ 900000) (hns : noSt P) :
    Calls Tryz.prog 83 #[.pointer (some ⟨b, 0, none⟩)] w fun e w' => ∃ v, e = .returned v ∧ Ints w' v (intsF (P.length + 1) (startF (cntL f P))) ∧ Below w.heap.size w w' :=
  (start_own ho hP hns).mono (fun _ _ ⟨v, h1, h2, h3⟩ => ⟨v, h1, Ints.of_own h2, h3⟩)

theorem start_nil (w : World) :
    Calls Tryz.prog 83 #[.pointer none] w fun e w' => e = .returned (.slice none 0 0) ∧ w' = w := by
  have C := Lib.hid (isMade_nil w)
  go_enter Tryz.func83, Tryz.ntmps83
  go_wp2_with (go_at_call 112; refine C.out.mono ?_; rintro e w' ⟨rfl, rfl⟩)
  go_ret
  exact ⟨rfl, rfl⟩

theorem step_nil (v : Value) (c : Value) (w : World) :
    Calls Tryz.prog 116 #[.pointer none, v, c] w fun e w' => e = .returned (.slice none 0 0) ∧ w' = w := by
  have C := Lib.hid (isMade_nil w)
  go_enter Tryz.func116, Tryz.ntmps116
  go_wp2_with (go_at_call 112; refine C.out.mono ?_; rintro e w' ⟨rfl, rfl⟩)
  go_ret
  exact ⟨rfl, rfl⟩

theorem accepts_nil (v : Value) (w : World) :
    Calls Tryz.prog 85 #[.pointer none, v] w fun e w' => e = .returned (.bool false) ∧ w' = w := by
  have C := Lib.hid (isMade_nil w)
  go_enter Tryz.func85, Tryz.ntmps85
  go_wp2_with (go_at_call 112; refine C.out.mono ?_; rintro e w' ⟨rfl, rfl⟩)
  go_ret
  exact ⟨rfl, rfl⟩

theorem run_nil (v : Value) (w : World) :
    Calls Tryz.prog 202 #[.pointer none, v] w fun e w' => e = .returned (.bool false) ∧ w' = w := by
  have C := Lib.hid (isMade_nil w)
  go_enter Tryz.func202, Tryz.ntmps202
  go_wp2_with (go_at_call 112; refine C.out.mono ?_; rintro e w' ⟨rfl, rfl⟩)
  go_ret
  exact ⟨rfl, rfl⟩

/-! Run -/
set_option maxHeartbeats 1000000 in
theorem run_any {w : World} {b : Nat} {P : List UInt8} {f : Bool} (ho : NfaAt w b P f) (hP : P.length ≤ 900000) (hns : noSt P) (t : ByteArray) (ht : t.size ≤ 1000000) :
    Calls Tryz.prog 202 #[.pointer (some ⟨b, 0, none⟩), .string t] w fun e w' => e = .returned (.bool (mt f P t.data.toList)) ∧ Below w.heap.size w w' := by
  have HR : Hid (mt f P t.data.toList = runF (cntL f P) (cntL f t.data.toList) (startF (cntL f P)) P.length) := Lib.hid (by
    rw [cnt_mt, ← run_end, cntL_len])
  rw [HR.out]
  obtain ⟨B, hB⟩ : ∃ B, cntL f P = B := ⟨_, rfl⟩
  obtain ⟨T, hT⟩ : ∃ T, cntL f t.data.toList = T := ⟨_, rfl⟩
  have hTl : T.length ≤ 1000000 := by rw [← hT, cntL_len, ← Lib.size_eq]; exact ht
  have C := Lib.hid (isMade_any ho)
  have C1 := Lib.hid (initial_any ho hP hns)
  have C2 : Hid (∀ W, NfaAt W b P f → Calls Tryz.prog 80 #[.pointer (some ⟨b, 0, none⟩), .string t] W fun e w' => e = .returned (.string (str T)) ∧ Below W.heap.size W w') := Lib.hid (fun W h => by
    have := counted_any h.c2 t ht; rwa [hT] at this)
  have C3 : Hid (∀ (W : World) (s : Nat) (g : Nat → Bool), NfaAt W b P f → SetAt W s (P.length + 1) g → Calls Tryz.prog 136 #[setV s (P.length + 1), .string (str T), .func (.func 137) #[.pointer (some ⟨b, 0, none⟩)] #[]] W fun e w' =>
      ∃ r, e = .returned (setV r (P.length + 1)) ∧ SetAt w' r (P.length + 1) (runF B T g) ∧ OnlyAt s W.heap.size W w' ∧ (r = s ∨ W.heap.size ≤ r)) := Lib.hid (fun W s g h1 h2 => by
    have := walk_any (str T) (by rw [str_size]; exact hTl) h1 hP hns h2
    rwa [str_data, hB] at this)
  have C4 : Hid (∀ W, NfaAt W b P f → Calls Tryz.prog 118 #[.pointer (some ⟨b, 0, none⟩)] W fun e w' => e = .returned (.int .i64 (P.length : Int)) ∧ w' = W) := Lib.hid (fun W h => end_any h)
  rw [hB] at C1
  rw [hB, hT]
  unfold setV at C1 C3
  clear hB hT HR
  have hmf : ∀ (fn : Fn) (first cap : Array Value) (w : World), (Instr.makeFunc fn first cap).run Tryz.prog w = .ok (.func fn first cap) w := fun _ _ _ _ => rfl
  go_enter Tryz.func202, Tryz.ntmps202
  go_wp2_with (go_at_call 112; refine C.out.mono ?_; rintro e w' ⟨rfl, rfl⟩)
  refine C1.out.mono ?_
  rintro e w1 ⟨rfl, hs1, hb1⟩
  have ho1 := ho.below hb1 ho.lt
  go_wp2_with fail
  refine (C2.out _ ho1).mono ?_
  rintro e w2 ⟨rfl, hb2⟩
  have ho2 := ho1.below hb2 ho1.lt
  have hs2 := hs1.below hb2 hs1.lt
  go_wp2_with fail
  refine (C3.out _ _ _ ho2 hs2).mono ?_
  rintro e w3 ⟨r, rfl, hs3, hon, hr⟩
  have hb12 := hb1.trans (hb2.mono hb1.size)
  have hb3 := hb12.trans (hon.below (B' := w'.heap.size) (by omega) hb12.size)
  have ho3 := ho.below hb3 ho.lt
  have cc := World.rowIs.cell hs3 (i := P.length) (by omega)
  clear hs3 hs2 hs1 hon
  go_wp2_with (go_at_call 118; refine (C4.out _ ho3).mono ?_; rintro e w4 ⟨rfl, rfl⟩)
  go_ret
  exact ⟨rfl, hb3⟩

/-! Accepts -/
set_option maxHeartbeats 1000000 in
theorem accepts_any {w : World} {b : Nat} {P : List UInt8} {f : Bool} (ho : NfaAt w b P f) {v : Value} {zs : List Int} (hv : Ints w v zs) (hz : zs.length ≤ 1000000) :
    Calls Tryz.prog 85 #[.pointer (some ⟨b, 0, none⟩), v] w fun e w' => e = .returned (.bool (inL zs P.length)) ∧ w' = w := by
  have C := Lib.hid (isMade_any ho)
  have C4 := Lib.hid (end_any ho)
  have C5 : Hid (Calls Tryz.prog 117 #[v, .int .i64 (P.length : Int)] w fun e w' => e = .returned (.bool (inL zs P.length)) ∧ w' = w) := by
    rcases hv with ⟨rfl, rfl⟩ | ⟨a, cap, rfl, rfl⟩ | ⟨b', off, cap, rfl, _, hc⟩
    · exact Lib.hid (Tryz.slices_Contains_int_empty none 0 _ w)
    · exact Lib.hid (Tryz.slices_Contains_int_empty (some a) cap _ w)
    · have := Tryz.slices_Contains_int b' off zs.length cap zs (P.length : Int) w (Nat.le_refl _) (by omega) hc
      rw [List.take_length] at this
      exact Lib.hid this
  obtain ⟨x, hx⟩ : ∃ x, inL zs P.length = x := ⟨_, rfl⟩
  rw [hx] at C5
  rw [hx]
  clear hx
  go_enter Tryz.func85, Tryz.ntmps85
  go_wp2_with (go_at_call 112; refine C.out.mono ?_; rintro e w' ⟨rfl, rfl⟩)
  refine C4.out.mono ?_
  rintro e w2 ⟨rfl, rfl⟩
  go_wp2_with fail
  refine C5.out.mono ?_
  rintro e w2 ⟨rfl, rfl⟩
  go_wp2
  go_ret
  exact ⟨rfl, rfl⟩
end Go.Proofs.YtnpgmekgmelamaaGreat

namespace Go.Proofs.YtnpgmekgmelamaaGreat
open Go.RowKit Go.Shelf

theorem inL_snoc (l : List Int) (x : Int) (i : Nat) : inL (l ++ [x]) i = (inL l i || decide (x = (i : Int))) := by
  rw [inL_app]
  congr 1
  by_cases e : x = (i : Int)
  · subst e; simp [inL]
  · have : ¬ ((i : Int) = x) := fun h => e h.symm
    simp [inL, e, this]
theorem take_int (zs : List Int) (k : Nat) (h : k < zs.length) : zs.take (k + 1) = zs.take k ++ [zs.getD k 0] := by
  rw [List.take_add_one, List.getElem?_eq_getElem h]
  simp [List.getD, h]

theorem conv_one (c : UInt8) (w : World) :
    (convert 85 9 (.slice (some ⟨w.heap.size, 0, none⟩) 1 1)).run Tryz.prog (w.alloc (.cells #[.int .u8 (c.toNat : Int)] 5)) = .ok (.string (str [c])) (w.alloc (.cells #[.int .u8 (c.toNat : Int)] 5)) := by
  have hcell : ((w.alloc (.cells #[.int .u8 (c.toNat : Int)] 5))).cell? ⟨w.heap.size, 0, none⟩ = some (.int .u8 (c.toNat : Int)) := (Boxed.new w 5 _).cell
  exact run_convert_bytes_back (P := Tryz.prog) _ 85 9 5 ⟨w.heap.size, 0, none⟩ 1 [c] Tryz.underlying85 Tryz.underlying5 Tryz.underlying9 (fun j hj => by
    have : j = 0 := by simpa using hj
    subst this
    exact hcell)

set_option maxHeartbeats 4000000 in
theorem take_own {w : World} {b : Nat} {P : List UInt8} {f : Bool} (ho : NfaAt w b P f) (hP : P.length ≤ 900000) (hns : noSt P) {v : Value} {zs : List Int} (hv : Ints w v zs) (hz : zs.length ≤ 1000000) (c : UInt8) :
    Calls Tryz.prog 116 #[.pointer (some ⟨b, 0, none⟩), v, .int .u8 (c.toNat : Int)] w fun e w' => ∃ v', e = .returned v' ∧ w'.ownsRow w.heap.size 3 1 v' (intsF (P.length + 1) (stepF (cntL f P) (cntC f c) (inL zs))).length ((intsF (P.length + 1) (stepF (cntL f P) (cntC f c) (inL zs))).map (Value.int .i64)) ∧ Below w.heap.size w w' := by
  obtain ⟨B, hB⟩ : ∃ B, cntL f P = B := ⟨_, rfl⟩
  obtain ⟨d, hd⟩ : ∃ d, cntC f c = d := ⟨_, rfl⟩
  have hmk := make_set (P.length + 1) (by omega)
  rw [show ((P.length + 1 : Nat) : Int) = (P.length : Int) + 1 from rfl] at hmk
  have C := Lib.hid (isMade_any ho)
  have C1 := Lib.hid (sizes_any ho (by omega))
  have C2 : Hid (∀ W, NfaAt W b P f → Calls Tryz.prog 80 #[.pointer (some ⟨b, 0, none⟩), .string (str [c])] W fun e w' => e = .returned (.string (str [d])) ∧ Below W.heap.size W w') := Lib.hid (fun W h => by
    have := counted_any h.c2 (str [c]) (by rw [str_size]; simp)
    rwa [str_data, cnt_one, hd] at this)
  have C3 : Hid (∀ (W : World) (s : Nat) (g : Nat → Bool), NfaAt W b P f → SetAt W s (P.length + 1) g → Calls Tryz.prog 136 #[.slice (some ⟨s, 0, none⟩) (P.length + 1) (P.length + 1), .string (str [d]), .func (.func 137) #[.pointer (some ⟨b, 0, none⟩)] #[]] W fun e w' =>
      ∃ r, e = .returned (.slice (some ⟨r, 0, none⟩) (P.length + 1) (P.length + 1)) ∧ SetAt w' r (P.length + 1) (stepF B d g) ∧ OnlyAt s W.heap.size W w' ∧ (r = s ∨ W.heap.size ≤ r)) := Lib.hid (fun W s g h1 h2 => by
    have := walk_any (str [d]) (by rw [str_size]; simp) h1 hP hns h2
    rwa [str_data, hB, runF_cons] at this)
  have C4 := Lib.hid (fun (s : Nat) w => states_any (some ⟨s, 0, none⟩) (P.length + 1) (P.length + 1) w)
  have C5 : Hid (∀ (W : World) (s : Nat) (g : Nat → Bool), SetAt W s (P.length + 1) g → Calls Tryz.prog 99 #[.func (.func 135) #[] #[.pointer (some ⟨W.heap.size, 0, none⟩)]] (W.alloc (.cells #[.slice (some ⟨s, 0, none⟩) (P.length + 1) (P.length + 1)] 153)) fun e W' =>
      ∃ v, e = .returned v ∧ W'.ownsRow W.heap.size 3 1 v (intsF (P.length + 1) g).length ((intsF (P.length + 1) g).map (Value.int .i64)) ∧ Below W.heap.size W W') := Lib.hid (fun W s g hs => by
    refine (collect_any W.heap.size s (P.length + 1) g (by omega) (W.alloc (.cells #[.slice (some ⟨s, 0, none⟩) (P.length + 1) (P.length + 1)] 153)) (by simp) (Boxed.new W 153 _).cell (World.rowIs.alloc hs _)).mono ?_
    rintro e W' ⟨v, rfl, hr, hb⟩
    have h4 := (Below.refl W.heap.size W).alloc (Nat.le_refl _) (.cells #[.slice (some ⟨s, 0, none⟩) (P.length + 1) (P.length + 1)] 153)
    exact ⟨v, rfl, own_base hr (by simp), h4.trans (hb.mono h4.size)⟩)
  rw [hB, hd]
  clear hB hd
  have hconv := conv_one c
  have hmf : ∀ (fn : Fn) (first cap : Array Value) (w : World), (Instr.makeFunc fn first cap).run Tryz.prog w = .ok (.func fn first cap) w := fun _ _ _ _ => rfl
  have hs0 := Lib.hid ((set_made w (P.length + 1)).congr (h := inL (zs.take 0)) (fun i _ => by simp [inL]))
  have hb0 := Lib.hid ((Below.refl w.heap.size w).alloc (Nat.le_refl _) (.cells (madeCells #[.bool false] (P.length + 1)) 4))
  obtain ⟨a, cap, rfl, hcell⟩ := hv.reads
  go_enter Tryz.func116, Tryz.ntmps116
  go_wp2_with (go_at_call 112; refine C.out.mono ?_; rintro e w' ⟨rfl, rfl⟩)
  refine C1.out.mono ?_
  rintro e w2 ⟨rfl, rfl⟩
  go_wp2
  go_loopg [9, 19] zs.length (fun gk s9 s19 wr => ∃ k : Nat, k + gk = zs.length ∧ s19 = .int .i64 k ∧ Hid (SetAt wr w2.heap.size (P.length + 1) (inL (zs.take k))) ∧ Hid (Below w2.heap.size w2 wr))
  case atStart => exact ⟨0, by omega, rfl, hs0, hb0⟩
  case round =>
    obtain ⟨k, hkg, rfl, HS, HB⟩ := hrel
    clear hs0 hb0
    cases gk with
    | zero =>
      have hkz : ¬ ((k : Int) < (zs.length : Int)) := by omega
      have hkt : Hid (zs.take k = zs) := Lib.hid (List.take_of_length_le (by omega))
      have hs1 := HS.out
      rw [hkt.out] at hs1
      have hb1 := HB.out.alloc (w := wr) HB.out.size (.cells #[.int .u8 (c.toNat : Int)] 5)
      have ho1 := ho.below hb1 ho.lt
      replace hs1 : SetAt (wr.alloc (.cells #[.int .u8 (c.toNat : Int)] 5)) w2.heap.size (P.length + 1) (inL zs) := World.rowIs.alloc hs1 _
      replace hb1 := Lib.hid hb1
      replace hs1 := Lib.hid hs1
      replace ho1 := Lib.hid ho1
      go_wp2_with fail
      refine (C2.out _ ho1.out).mono ?_
      rintro e w3 ⟨rfl, hb3⟩
      have ho3 := ho1.out.below hb3 ho1.out.lt
      have hs3 := hs1.out.below hb3 hs1.out.lt
      replace hb3 := hb1.out.trans (hb3.mono hb1.out.size)
      clear hb1 hs1 ho1 HS HB hcell
      go_wp2_with fail
      refine (C3.out _ _ _ ho3 hs3).mono ?_
      rintro e w4 ⟨r, rfl, hs4, hon, hr⟩
      have hb4 := hb3.trans (hon.below (B' := w2.heap.size) (Nat.le_refl _) hb3.size)
      clear hs3 hon hb3 ho3
      have C6 := Lib.hid (C5.out _ _ _ hs4)
      go_wp2_with (go_at_call 114; refine (C4.out _ _).mono ?_; rintro e w5 ⟨rfl, rfl⟩)
      refine C6.out.mono ?_
      rintro e w5 ⟨v', rfl, hi5, hb5⟩
      have hb6 := hb4.trans (hb5.mono hb4.size)
      replace hi5 := Lib.hid (own_base hi5 hb4.size)
      clear hs4 hr
      go_wp2
      go_ret
      exact ⟨v', rfl, hi5.out, hb6⟩
    | succ g' =>
      have hkz : (k : Int) < (zs.length : Int) := by omega
      have hkn : k < zs.length := by omega
      obtain ⟨b', off, rfl, hc⟩ := hcell.out wr HB.out k hkn
      have hst : Hid (zs.take (k + 1) = zs.take k ++ [zs.getD k 0]) := Lib.hid (take_int zs k hkn)
      obtain ⟨x, hx⟩ : ∃ x, zs.getD k 0 = x := ⟨_, rfl⟩
      rw [hx] at hc hst
      clear hx
      clear hcell
      by_cases h0 : 0 ≤ x
      · obtain ⟨m, rfl⟩ : ∃ m : Nat, x = (m : Int) := ⟨x.toNat, by omega⟩
        by_cases hm : m < P.length + 1
        · have hcc := World.rowIs.cell HS.out (i := m) hm
          have hff := World.rowIs.frozen HS.out m
          have hmz : (m : Int) < (P.length : Int) + 1 := by omega
          go_wp2
          go_roundg g'
          case measure => omega
          case rel => exact ⟨k + 1, by omega, iv (by omega), Lib.hid ((HS.out.add m).congr (fun i _ => by
            rw [hst.out, inL_snoc]
            by_cases e : i = m
            · subst e; simp
            · have : ¬ ((m : Int) = (i : Int)) := by omega
              simp [e, this])), Lib.hid (HB.out.setCell (p := ⟨w2.heap.size, m, none⟩) (Nat.le_refl _) _)⟩
        · have hmz : ¬ ((m : Int) < (P.length : Int) + 1) := by omega
          go_wp2
          go_roundg g'
          case measure => omega
          case rel => exact ⟨k + 1, by omega, iv (by omega), Lib.hid (HS.out.congr (fun i hi => by
            rw [hst.out, inL_snoc]
            have : ¬ ((m : Int) = (i : Int)) := by omega
            simp [this])), HB⟩
      · go_wp2
        go_roundg g'
        case measure => omega
        case rel => exact ⟨k + 1, by omega, iv (by omega), Lib.hid (HS.out.congr (fun i hi => by
          rw [hst.out, inL_snoc]
          have : ¬ (x = (i : Int)) := by omega
          simp [this])), HB⟩
theorem take_any {w : World} {b : Nat} {P : List UInt8} {f : Bool} (ho : NfaAt w b P f) (hP : P.length ≤ 900000) (hns : noSt P) {v : Value} {zs : List Int} (hv : Ints w v zs) (hz : zs.length ≤ 1000000) (c : UInt8) :
    Calls Tryz.prog 116 #[.pointer (some ⟨b, 0, none⟩), v, .int .u8 (c.toNat : Int)] w fun e w' => ∃ v', e = .returned v' ∧ Ints w' v' (intsF (P.length + 1) (stepF (cntL f P) (cntC f c) (inL zs))) ∧ Below w.heap.size w w' :=
  (take_own ho hP hns hv hz c).mono (fun _ _ ⟨v, h1, h2, h3⟩ => ⟨v, h1, Ints.of_own h2, h3⟩)
end Go.Proofs.YtnpgmekgmelamaaGreat
