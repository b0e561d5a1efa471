/-
  What is proved: what (*builder).standing returns: the classes of the bytes that stand at a list's positions. What lay in memory before stands as it stood.
  What is proved: what (*builder).row returns: the numbers of the sets that a list's bytes lead to, by class; new sets get the next numbers. Of what lay in memory before, only the builder's own blocks are changed.
  What is proved: what (*builder).row does (the walk).
-/
import Derived.Test.YtnpgmekgmelamaaGreatDfNum
import Derived.Deep.RegionHeld3
namespace Go.Proofs.YtnpgmekgmelamaaGreat
open Go.RowKit Go.Shelf Go.Maps

def standF (P : List UInt8) (cl : Nat → Nat) (l : List Int) (k : Nat) : Bool := l.any fun x => decide (x.toNat < P.length) && cl (P.getD x.toNat 0).toNat == k
theorem standF_snoc (P : List UInt8) (cl : Nat → Nat) (l : List Int) (x : Int) (k : Nat) : standF P cl (l ++ [x]) k = (standF P cl l k || (decide (x.toNat < P.length) && cl (P.getD x.toNat 0).toNat == k)) := by simp [standF]
theorem make_bools (n : Nat) (hn : n ≤ 1000000) (w : World) :
    (Instr.makeSlice 24 (.int .i64 (n : Int)) (.int .i64 (n : Int))).run Tryz.prog w = .ok (.slice (some ⟨w.heap.size, 0, none⟩) n n) (w.alloc (.cells (madeCells #[.bool false] n) 4)) :=
  run_make_row' (P := Tryz.prog) 24 4 (.bool false) 1 Tryz.underlying24 info_bool rfl .i64 .i64 n (by omega) (by omega) w

section
variable {W : World} {b nb : Nat} {P SA : List UInt8} {cl : Nat → Nat} {m : Nat} {sv : Value}

set_option maxRecDepth 100000 in
set_option maxHeartbeats 4000000 in
theorem standing_any (hO : BldAt W b nb P SA cl m sv) (hcl : ∀ i, i < 256 → cl i < SA.length) {lv : Value} {l : List Int} (hl : Ints W lv l) (hs : Small l) (hlen : l.length ≤ 1000) (hSA : SA.length ≤ 1000) :
    Calls Tryz.prog 115 #[.pointer (some ⟨b, 0, none⟩), lv] W fun e w' => e = .returned (.slice (some ⟨W.heap.size, 0, none⟩) SA.length SA.length) ∧ SetAt w' W.heap.size SA.length (standF P cl l) ∧ Below W.heap.size W w' := by
  have hmk := make_bools SA.length (by omega)
  obtain ⟨a, cap, rfl, hcell⟩ := hl.reads
  have HO : Hid (∀ w', Below W.heap.size W w' → BldAt w' b nb P SA cl m sv) := Lib.hid (fun w' h => hO.same (h.block b hO.lt))
  have c2 := hO.c2
  have hs0 := Lib.hid ((set_made W SA.length).congr (h := standF P cl (l.take 0)) (fun i _ => by simp [standF]))
  have hb0 := Lib.hid ((Below.refl W.heap.size W).alloc (Nat.le_refl _) (.cells (madeCells #[.bool false] SA.length) 4))
  obtain ⟨n, hn⟩ : ∃ n, SA.length = n := ⟨_, rfl⟩
  have hz2 : ((str SA).size : Int) = (n : Int) := by rw [str_size, hn]
  obtain ⟨S, hS⟩ : ∃ S, str P = S := ⟨_, rfl⟩
  have hSz : S.size = P.length := by rw [← hS, str_size]
  obtain ⟨T, hT⟩ : ∃ T, str SA = T := ⟨_, rfl⟩
  rw [hT] at c2 hz2
  rw [hn] at hmk hcl hs0 hb0 hSA
  rw [hn]
  have HP : Hid (∀ (k : Nat) (h : k < S.size), P.getD k 0 = S[k]'h) := Lib.hid (fun k h => by
    have e : P = S.data.toList := by rw [← hS, str_data]
    rw [List.getD_eq_getElem?_getD]
    have : P[k]? = some (S[k]'h) := by
      rw [e, List.getElem?_eq_getElem (by rw [← Lib.size_eq]; exact h)]; rfl
    rw [this]; rfl)
  have HS := Lib.hid hs
  have HSZ := Lib.hid hSz
  have HO1 : Hid (∀ w', Below W.heap.size W w' → w'.cell? ⟨b, 1, none⟩ = some (.string S)) := Lib.hid (fun w' h => by have := (HO.out w' h).c1; rwa [hS] at this)
  have HC : Hid (∀ w' i, Below W.heap.size W w' → i < 256 → w'.cell? ⟨b, 3 + i, none⟩ = some (.int .i64 (cl i : Int)) ∧ cl i < n) := Lib.hid (fun w' i h hi => ⟨(HO.out w' h).cls hi, hcl i hi⟩)
  clear hl hs hO hcl hS hT hn HO hSz
  go_enter Tryz.func115, Tryz.ntmps115
  go_wp2
  go_loopg [7, 16] l.length (fun gk s7 s16 wr => ∃ k : Nat, k + gk = l.length ∧ s16 = .int .i64 k ∧ Hid (SetAt wr W.heap.size n (standF P cl (l.take k))) ∧ Hid (Below W.heap.size W wr))
  case atStart => exact ⟨0, by omega, rfl, hs0, hb0⟩
  case round =>
    obtain ⟨k, hkg, rfl, HST, HB⟩ := hrel
    clear hs0 hb0
    cases gk with
    | zero =>
      have hkz : ¬ ((k : Int) < (l.length : Int)) := by omega
      have hkt : Hid (l.take k = l) := Lib.hid (List.take_of_length_le (by omega))
      go_wp2
      go_ret
      exact ⟨rfl, hkt.out ▸ HST.out, HB.out⟩
    | succ g' =>
      have hkz : (k : Int) < (l.length : Int) := by omega
      have hkn : k < l.length := by omega
      obtain ⟨b', off, rfl, hc⟩ := hcell.out wr HB.out k hkn
      have hst : Hid (l.take (k + 1) = l.take k ++ [l.getD k 0]) := Lib.hid (take_int l k hkn)
      obtain ⟨c, e1, _⟩ := HS.out.at hkn
      rw [e1] at hc hst
      clear e1
      obtain ⟨x, hx⟩ : ∃ x, c.toNat = x := ⟨_, rfl⟩
      rw [hx] at hc hst
      clear hx
      have cN := HO1.out wr HB.out
      clear hcell
      by_cases hxP : x < S.size
      · have hxz : (x : Int) < (S.size : Int) := by omega
        have hgd := HP.out x hxP
        obtain ⟨d, hd⟩ : ∃ d : UInt8, S[x]'hxP = d := ⟨_, rfl⟩
        have hdl : d.toNat < 256 := d.toNat_lt
        obtain ⟨hcc, hcn⟩ := HC.out wr d.toNat HB.out hdl
        obtain ⟨q, hq⟩ : ∃ q, cl d.toNat = q := ⟨_, rfl⟩
        rw [hq] at hcc hcn
        have hqc := World.rowIs.cell HST.out (i := q) hcn
        have hqf := World.rowIs.frozen HST.out q
        have hqz : (q : Int) < (n : Int) := by omega
        have hdz : (d.toNat : Int) < 256 := by omega
        have HE : Hid (∀ i, standF P cl (l.take (k + 1)) i = (if i = q then true else standF P cl (l.take k) i)) := Lib.hid (fun i => by
          rw [hst.out, standF_snoc, Int.toNat_natCast, hgd, hd, hq, decide_eq_true (by have := HSZ.out; omega)]
          by_cases e : i = q
          · subst e; simp
          · have : (q == i) = false := by simpa using fun h => e h.symm
            rw [this, if_neg e]; simp)
        clear hq hgd
        go_wp2
        go_region
        all_goals
          go_wp2
          go_roundg g'
          case measure => omega
          case rel => exact ⟨k + 1, by omega, iv (by omega), Lib.hid ((HST.out.add q).congr (fun i _ => (HE.out i).symm)), Lib.hid (by first | exact HB.out.setCell (p := ⟨W.heap.size, q, none⟩) (Nat.le_refl _) _ | exact (HB.out.setCell (p := ⟨W.heap.size, q, none⟩) (Nat.le_refl _) _).drew)⟩
      · have hxz : ¬ ((x : Int) < (S.size : Int)) := by omega
        have HE : Hid (∀ i, standF P cl (l.take (k + 1)) i = standF P cl (l.take k) i) := Lib.hid (fun i => by
          rw [hst.out, standF_snoc, Int.toNat_natCast, decide_eq_false (by have := HSZ.out; omega)]
          simp)
        go_wp2
        go_roundg g'
        case measure => omega
        case rel => exact ⟨k + 1, by omega, iv (by omega), Lib.hid (HST.out.congr (fun i _ => (HE.out i).symm)), HB⟩
end
end Go.Proofs.YtnpgmekgmelamaaGreat

namespace Go.Proofs.YtnpgmekgmelamaaGreat
open Go.RowKit Go.Shelf Go.Maps

theorem make_ints (n : Nat) (hn : n ≤ 1000000) (w : World) :
    (Instr.makeSlice 22 (.int .i64 (n : Int)) (.int .i64 (n : Int))).run Tryz.prog w = .ok (.slice (some ⟨w.heap.size, 0, none⟩) n n) (w.alloc (.cells (madeCells #[.int .i64 0] n) 3)) :=
  run_make_row' (P := Tryz.prog) 22 3 (.int .i64 0) 8 Tryz.underlying22 info_int rfl .i64 .i64 n (by omega) (by omega) w
/-- Block r holds n numbers. -/
def NumsAt (W : World) (r n : Nat) (g : Nat → Int) : Prop := W.rowIs r 3 n (fun i => .int .i64 (g i))
theorem nums_made (W : World) (n : Nat) : NumsAt (W.alloc (.cells (madeCells #[.int .i64 0] n) 3)) W.heap.size n (fun _ => 0) := World.rowIs_made W (.int .i64 0) n 3
theorem NumsAt.put {W : World} {r n : Nat} {g : Nat → Int} (h : NumsAt W r n g) (i : Nat) (x : Int) : NumsAt (W.setCell ⟨r, i, none⟩ (.int .i64 x)) r n (fun j => if j = i then x else g j) :=
  World.rowIs.congr (World.rowIs.set h i _) (fun j _ => by by_cases e : j = i <;> simp [e])

theorem BI.setOther {W : World} {base b nb : Nat} {P SA : List UInt8} {cl : Nat → Nat} {m : Nat} {ss : List (List Int)} {sv : Value} {vals : List Value} (h : BI W base b nb P SA cl m ss sv vals) {r : Nat} (i : Nat) (v : Value) (h1 : r ≠ b) (h2 : r ≠ m) (h3 : sv.ownBlock ≠ some r) (h4 : ∀ x, x ∈ vals → x.ownBlock ≠ some r) : BI (W.setCell ⟨r, i, none⟩ v) base b nb P SA cl m ss sv vals := by
  have keep : ∀ k, k ≠ r → (W.setCell ⟨r, i, none⟩ v).heap[k]? = W.heap[k]? := fun k hk => Below.heap_setCell _ _ _ _ hk
  have hz : (W.setCell ⟨r, i, none⟩ v).heap.size = W.heap.size := by simp [World.setCell]
  obtain ⟨M, hM, hK⟩ := h.map
  refine ⟨h.obj.same (keep _ (Ne.symm h1)), row_kept h.own (fun k hk => keep k (fun e => h3 (by rw [hk, e]))), ⟨M, map_kept hM (keep _ (Ne.symm h2)), hK⟩, fun j x hx => ?_, h.one, h.bm, h.sb, h.sm, h.hb, h.hm, h.small⟩
  obtain ⟨g1, g2, g3, g4⟩ := h.rows j x hx
  exact ⟨g1.kept (fun k hk _ => keep k (fun e => h4 x (List.mem_iff_getElem?.2 ⟨j, hx⟩) (by rw [hk, e]))) (by omega), g2, g3, fun k hk => ⟨(g4 k hk).1, by have := (g4 k hk).2; omega⟩⟩

/-- Only the builder's blocks, and one more that is new. -/
theorem Off.set {b m : Nat} {sv : Value} {W W' : World} (h : Off b m sv W W') {r : Nat} (hr : W.heap.size ≤ r) (i : Nat) (v : Value) : Off b m sv W (W'.setCell ⟨r, i, none⟩ v) :=
  ⟨h.os, h.tape, h.output, by have := h.size; simp [World.setCell]; omega, fun k hk h1 h2 h3 => (Below.heap_setCell _ _ _ _ (by show k ≠ r; omega)).trans (h.block k hk h1 h2 h3)⟩

theorem take_next (B SA : List UInt8) (l : List Int) {k : Nat} {c : UInt8} (h : SA[k]? = some c) : (nextsL B SA l).take (k + 1) = (nextsL B SA l).take k ++ [stepL B l c] := by
  unfold nextsL
  rw [List.take_add_one, List.getElem?_map, h]; rfl

/-- The numbers of the first k classes. -/
def RowTo (B SA : List UInt8) (ss : List (List Int)) (l : List Int) (k : Nat) (g : Nat → Int) : Prop := ∀ j c, j < k → SA[j]? = some c → g j = (ss.idxOf (stepL B l c) : Int) ∧ stepL B l c ∈ ss
theorem RowTo.next {B SA : List UInt8} {ss : List (List Int)} {l : List Int} {k : Nat} {g : Nat → Int} {c : UInt8} (h : RowTo B SA ss l k g) (hc : SA[k]? = some c) : RowTo B SA (addL ss (stepL B l c)) l (k + 1) (fun j => if j = k then ((addL ss (stepL B l c)).idxOf (stepL B l c) : Int) else g j) := by
  intro j d hj hd
  by_cases e : j = k
  · subst e
    rw [hc] at hd
    have : c = d := by injection hd
    subst this
    exact ⟨by simp, addL_mem _ _⟩
  · obtain ⟨h1, h2⟩ := h j d (by omega) hd
    refine ⟨?_, (addL_pre _ _).subset h2⟩
    simp only [if_neg e]
    rw [h1, idx_pre (addL_pre _ _) h2]
theorem RowTo.quiet {B SA : List UInt8} {ss : List (List Int)} {l : List Int} {k : Nat} {g : Nat → Int} {c c0 : UInt8} (h : RowTo B SA ss l k g) (hc : SA[k]? = some c) (hk : 0 < k) (h0 : SA[0]? = some c0) (e : stepL B l c = stepL B l c0) :
    addL ss (stepL B l c) = ss ∧ RowTo B SA ss l (k + 1) (fun j => if j = k then g 0 else g j) := by
  obtain ⟨h1, h2⟩ := h 0 c0 hk h0
  refine ⟨by unfold addL; rw [if_pos (by rw [e]; exact h2)], fun j d hj hd => ?_⟩
  by_cases ej : j = k
  · subst ej
    rw [hc] at hd
    have : c = d := by injection hd
    subst this
    rw [e]
    exact ⟨by simpa using h1, h2⟩
  · simp only [if_neg ej]
    exact h j d (by omega) hd

/-- A class that does not stand: its byte leads where the * does. -/
theorem quiet_cls {P SA : List UInt8} {f : Bool} {cl : Nat → Nat} (hcl : ∀ c : UInt8, cl c.toNat = clsL SA (cntC f c)) (hnd : SA.Nodup) {l : List Int} {k : Nat} {c : UInt8} (hc : SA[k]? = some c) (h : standF P cl l k = false) :
    stepL (cntL f P) l c = stepL (cntL f P) l 42 := by
  apply step_quiet
  intro i hi hl e
  have hcm : c ∈ SA := List.mem_iff_getElem?.2 ⟨k, hc⟩
  rw [cntL_at] at e
  rw [cntL_len] at hl
  rw [List.getElem?_eq_getElem hl] at e
  have e2 : cntC f P[i] = c := by simpa using e
  have e3 : cl (P.getD i 0).toNat = k := by
    rw [List.getD_eq_getElem?_getD, List.getElem?_eq_getElem hl]
    show cl (P[i]).toNat = k
    rw [hcl, e2]
    unfold clsL
    rw [if_pos hcm]
    obtain ⟨hk, hkc⟩ := List.getElem?_eq_some_iff.1 hc
    rw [← hkc]
    exact List.Nodup.idxOf_getElem hnd k hk
  have : standF P cl l k = true := by
    unfold standF
    rw [List.any_eq_true]
    exact ⟨(i : Int), hi, by rw [Int.toNat_natCast, e3, decide_eq_true hl]; simp⟩
  rw [h] at this; exact absurd this (by decide)
end Go.Proofs.YtnpgmekgmelamaaGreat

namespace Go.Proofs.YtnpgmekgmelamaaGreat
open Go.RowKit Go.Shelf Go.Maps

/-- What a round of row finds. -/
structure RwI (W wr : World) (base b nb : Nat) (P SA : List UInt8) (f : Bool) (cl : Nat → Nat) (m : Nat) (ss : List (List Int)) (sv : Value) (vals : List Value) (l : List Int) (k : Nat) (sv1 : Value) (vals1 : List Value) (g : Nat → Int) : Prop where
  bi : BI wr base b nb P SA cl m (addsL ss ((nextsL (cntL f P) SA l).take k)) sv1 vals1
  nums : NumsAt wr W.heap.size SA.length g
  row : RowTo (cntL f P) SA (addsL ss ((nextsL (cntL f P) SA l).take k)) l k g
  stand : SetAt wr (W.heap.size + 1) SA.length (standF P cl l)
  off : Off b m sv W wr
  news : NewS sv sv1 W
  nr : sv1.ownBlock ≠ some W.heap.size
  ns : sv1.ownBlock ≠ some (W.heap.size + 1)
  nv : ∀ x, x ∈ vals1 → x ∈ vals ∨ ∀ k, x.ownBlock = some k → W.heap.size < k

/-- What stays as it is throughout. -/
structure RwC (W : World) (base b nb : Nat) (P SA : List UInt8) (f : Bool) (cl : Nat → Nat) (m : Nat) (ss : List (List Int)) (sv : Value) (vals : List Value) (lv : Value) (l : List Int) : Prop where
  bi : BI W base b nb P SA cl m ss sv vals
  nfa : NfaAt W nb P f
  nb : nb < base
  base : base ≤ W.heap.size
  fits : Fits (cntL f P) SA
  nodup : SA.Nodup
  cnt : ∀ c, c ∈ SA → cntC f c = c
  cls : ∀ c : UInt8, cl c.toNat = clsL SA (cntC f c)
  len : P.length ≤ 255
  noSt : noSt P
  lenS : SA.length ≤ 256
  ints : Ints W lv l
  small : Small l
  lenL : l.length ≤ 256
  o1 : lv.ownBlock ≠ some b
  o2 : lv.ownBlock ≠ some m
  o3 : ∀ k, lv.ownBlock = some k → sv.ownBlock ≠ some k ∧ k < W.heap.size
  few : ss.length ≤ 50000

section
variable {W : World} {base b nb : Nat} {P SA : List UInt8} {f : Bool} {cl : Nat → Nat} {m : Nat} {ss : List (List Int)} {sv : Value} {vals : List Value} {lv : Value} {l : List Int}

theorem addL_len (ss : List (List Int)) (l : List Int) : (addL ss l).length ≤ ss.length + 1 := by unfold addL; split <;> simp
theorem addsL_len : ∀ (ls ss : List (List Int)), (addsL ss ls).length ≤ ss.length + ls.length
  | [], ss => by simp [addsL]
  | l :: ls, ss => by
    rw [addsL_cons]
    have h1 := addsL_len ls (addL ss l)
    have h2 := addL_len ss l
    simp only [List.length_cons]; omega

theorem RwC.fewK (C : RwC W base b nb P SA f cl m ss sv vals lv l) (k : Nat) : (addsL ss ((nextsL (cntL f P) SA l).take k)).length ≤ 100000 := by
  have h1 := addsL_len ((nextsL (cntL f P) SA l).take k) ss
  have h2 : ((nextsL (cntL f P) SA l).take k).length ≤ SA.length := by
    rw [List.length_take]; unfold nextsL; rw [List.length_map]; exact Nat.min_le_right _ _
  have := C.few; have := C.lenS; omega
theorem RwC.belowB (C : RwC W base b nb P SA f cl m ss sv vals lv l) {w' : World} (h : Off b m sv W w') : Below base W w' := h.below C.base C.bi.hb C.bi.hm (fun k hk => (C.bi.own.lt k hk).1)
theorem RwC.nfaAt (C : RwC W base b nb P SA f cl m ss sv vals lv l) {w' : World} (h : Off b m sv W w') : NfaAt w' nb P f := C.nfa.below (C.belowB h) C.nb
theorem RwC.intsAt (C : RwC W base b nb P SA f cl m ss sv vals lv l) {w' : World} (h : Off b m sv W w') : Ints w' lv l :=
  C.ints.kept (fun k hk hlt => h.block k hlt (fun e => C.o1 (by rw [hk, e])) (fun e => C.o2 (by rw [hk, e])) (C.o3 k hk).1) h.size

theorem RwI.nvne (C : RwC W base b nb P SA f cl m ss sv vals lv l) {wr : World} {k : Nat} {sv1 : Value} {vals1 : List Value} {g : Nat → Int} (R : RwI W wr base b nb P SA f cl m ss sv vals l k sv1 vals1 g) : ∀ x, x ∈ vals1 → x.ownBlock ≠ some W.heap.size := fun x hx e => by
  rcases R.nv x hx with h | h
  · obtain ⟨j, hj⟩ := List.mem_iff_getElem?.1 h
    have := ((C.bi.rows j x hj).2.2.2 _ e).2; omega
  · have := h _ e; omega

/-- Step, from a round's world on. -/
theorem RwC.step (C : RwC W base b nb P SA f cl m ss sv vals lv l) {wr w' : World} (h : Off b m sv W wr) (hb : Below wr.heap.size wr w') {c : UInt8} (hc : c ∈ SA) :
    Calls Tryz.prog 116 #[.pointer (some ⟨nb, 0, none⟩), lv, .int .u8 (c.toNat : Int)] w' fun e w6 => ∃ v, e = .returned v ∧ w6.ownsRow wr.heap.size 3 1 v (stepL (cntL f P) l c).length ((stepL (cntL f P) l c).map (Value.int .i64)) ∧ Below wr.heap.size wr w6 ∧ Off b m sv wr w6 := by
  have hn := (C.nfaAt h).below hb (C.nfaAt h).lt
  have hi := (C.intsAt h).below hb
  have := take_own hn (by have := C.len; omega) C.noSt hi (by have := C.lenL; omega) c
  refine this.mono ?_
  rintro e w6 ⟨v, rfl, ho, hb6⟩
  rw [C.cnt c hc, ← cntL_len f P] at ho
  have hb' := hb.trans (hb6.mono hb.size)
  exact ⟨v, rfl, own_base ho hb.size, hb', Off.of_below hb'⟩

/-- number, behind it. -/
theorem RwI.num (C : RwC W base b nb P SA f cl m ss sv vals lv l) {wr w' : World} {k : Nat} {sv1 : Value} {vals1 : List Value} {g : Nat → Int} (R : RwI W wr base b nb P SA f cl m ss sv vals l k sv1 vals1 g) (hb : Below wr.heap.size wr w') {c : UInt8} {v : Value}
    (hc : SA[k]? = some c) (ho : w'.ownsRow wr.heap.size 3 1 v (stepL (cntL f P) l c).length ((stepL (cntL f P) l c).map (Value.int .i64))) :
    Calls Tryz.prog 82 #[.pointer (some ⟨b, 0, none⟩), v] w' fun e w7 => e = .returned (.int .i64 ((addL (addsL ss ((nextsL (cntL f P) SA l).take k)) (stepL (cntL f P) l c)).idxOf (stepL (cntL f P) l c) : Int)) ∧
      Off b m sv1 wr w7 ∧ ∃ sv2 vals2, RwI W (w7.setCell ⟨W.heap.size, k, none⟩ (.int .i64 ((addL (addsL ss ((nextsL (cntL f P) SA l).take k)) (stepL (cntL f P) l c)).idxOf (stepL (cntL f P) l c) : Int))) base b nb P SA f cl m ss sv vals l (k + 1) sv2 vals2 (fun j => if j = k then ((addL (addsL ss ((nextsL (cntL f P) SA l).take k)) (stepL (cntL f P) l c)).idxOf (stepL (cntL f P) l c) : Int) else g j) := by
  have hI' := R.bi.later hb
  have hlt := ho.lt
  have hbl := R.bi.obj.lt
  have hml : m < wr.heap.size := by obtain ⟨M, hM, _⟩ := R.bi.map; exact hM.lt
  have hsl : ∀ q, sv1.ownBlock = some q → q < wr.heap.size := fun q hq => (R.bi.own.lt q hq).2
  have hone : v.oneCell' = true := by obtain ⟨a, cap, rfl⟩ := row_slice ho; rfl
  have hB : (cntL f P).length = P.length := cntL_len f P
  have hRs := R.off.size
  refine (number_any hI' (Ints.of_own ho) (small_ints (by have := C.len; omega)) (Nat.le_trans (intsF_len _ _) (by have := C.len; omega)) (C.fewK k) (by have := C.base; have := hb.size; omega) hone (fun e => by have := (hlt b e).1; omega) (fun e => by have := (hlt m e).1; omega) (fun q hq => ⟨fun e => by have := (hlt q hq).1; have := hsl q e; omega, (hlt q hq).2⟩)).mono ?_
  rintro e w7 ⟨rfl, sv2, vals2, hI7, hO7, hN7, hV7⟩
  have hOr : Off b m sv1 wr w7 := (Off.of_below hb).trans (NewS.refl _ _) hO7
  have hNr : NewS sv1 sv2 wr := (NewS.refl sv1 wr).trans hb.size hN7
  have hNW : NewS sv sv2 W := R.news.trans hRs hNr
  have hrl : W.heap.size < wr.heap.size := World.rowIs.lt R.nums
  have hstl : W.heap.size + 1 < wr.heap.size := World.rowIs.lt R.stand
  have hWb : W.heap.size ≠ b := fun e => by have := C.bi.obj.lt; omega
  have hWm : W.heap.size ≠ m := fun e => by obtain ⟨M, hM, _⟩ := C.bi.map; have := hM.lt; omega
  have hsb : W.heap.size + 1 ≠ b := fun e => by have := C.bi.obj.lt; omega
  have hsm : W.heap.size + 1 ≠ m := fun e => by obtain ⟨M, hM, _⟩ := C.bi.map; have := hM.lt; omega
  have hnr : sv2.ownBlock ≠ some W.heap.size := fun e => by
    rcases hNr _ e with e | e
    · exact R.nr e
    · omega
  have hns : sv2.ownBlock ≠ some (W.heap.size + 1) := fun e => by
    rcases hNr _ e with e | e
    · exact R.ns e
    · omega
  have hnums : NumsAt w7 W.heap.size SA.length g := World.rowIs.of_block R.nums (hOr.block _ hrl hWb hWm R.nr)
  have hst : SetAt w7 (W.heap.size + 1) SA.length (standF P cl l) := World.rowIs.of_block R.stand (hOr.block _ hstl hsb hsm R.ns)
  have hnv : ∀ x, x ∈ vals2 → x.ownBlock ≠ some W.heap.size := by
    intro x hx e
    rcases hV7 x hx with h | h
    · exact R.nvne C x h e
    · subst h; have := (hlt _ e).1; omega
  have hnv2 : ∀ x, x ∈ vals2 → x ∈ vals ∨ ∀ k, x.ownBlock = some k → W.heap.size < k := by
    intro x hx
    rcases hV7 x hx with h | h
    · exact R.nv x h
    · subst h; exact .inr (fun k hk => by have := (hlt k hk).1; omega)
  have ek : addsL ss ((nextsL (cntL f P) SA l).take (k + 1)) = addL (addsL ss ((nextsL (cntL f P) SA l).take k)) (stepL (cntL f P) l c) := by
    rw [take_next _ _ _ hc, addsL_snoc]
  refine ⟨rfl, hOr, sv2, vals2, ⟨?_, ?_, ?_, ?_, ?_, hNW, hnr, hns, hnv2⟩⟩
  · rw [ek]; exact hI7.setOther _ _ hWb hWm hnr hnv
  · exact hnums.put k _
  · rw [ek]; exact R.row.next hc
  · exact World.rowIs.setOther hst (show W.heap.size + 1 ≠ W.heap.size by omega) _
  · exact (R.off.trans R.news hOr).set (Nat.le_refl _) _ _

set_option maxRecDepth 1000000 in
set_option maxHeartbeats 8000000 in
theorem row_any (C : RwC W base b nb P SA f cl m ss sv vals lv l) :
    Calls Tryz.prog 84 #[.pointer (some ⟨b, 0, none⟩), lv] W fun e w' => e = .returned (.slice (some ⟨W.heap.size, 0, none⟩) SA.length SA.length) ∧ ∃ sv' vals' g, RwI W w' base b nb P SA f cl m ss sv vals l SA.length sv' vals' g := by
  have hmk := make_ints SA.length (by have := C.lenS; omega)
  have c2 := C.bi.obj.c2
  have hW1 : Below W.heap.size W (W.alloc (.cells (madeCells #[.int .i64 0] SA.length) 3)) := (Below.refl _ _).alloc (Nat.le_refl _) _
  have hz1 : (W.alloc (.cells (madeCells #[.int .i64 0] SA.length) 3)).heap.size = W.heap.size + 1 := by simp
  have hC1 : Hid (Calls Tryz.prog 115 #[.pointer (some ⟨b, 0, none⟩), lv] (W.alloc (.cells (madeCells #[.int .i64 0] SA.length) 3)) fun e w' => e = .returned (.slice (some ⟨W.heap.size + 1, 0, none⟩) SA.length SA.length) ∧ RwI W w' base b nb P SA f cl m ss sv vals l 0 sv vals (fun _ => 0)) := Lib.hid (by
    have := standing_any (C.bi.obj.same (hW1.block b C.bi.obj.lt)) (fun i hi => by
      have := C.cls (UInt8.ofNat i)
      rw [UInt8.toNat_ofNat', Nat.mod_eq_of_lt (by omega)] at this
      rw [this]; exact clsL_lt C.fits.pos _) (C.ints.below hW1) C.small (by have := C.lenL; omega) (by have := C.lenS; omega)
    rw [hz1] at this
    refine this.mono ?_
    rintro e w' ⟨rfl, hs, hb⟩
    have hb' := hW1.trans (hb.mono (by omega))
    have hsz := hb.size
    refine ⟨rfl, ⟨?_, ?_, ?_, hs, Off.of_below hb', NewS.refl _ _, ?_, ?_, ?_⟩⟩
    · rw [List.take_zero]; exact C.bi.later hb'
    · exact World.rowIs.of_block (nums_made W SA.length) (hb.block _ (by omega))
    · intro j c hj; exact absurd hj (Nat.not_lt_zero j)
    · intro e; have := (C.bi.own.lt _ e).2; omega
    · intro e; have := (C.bi.own.lt _ e).2; omega
    · exact fun x hx => .inl hx)
  obtain ⟨n, hn⟩ : ∃ n, SA.length = n := ⟨_, rfl⟩
  obtain ⟨T, hT⟩ : ∃ T, str SA = T := ⟨_, rfl⟩
  have hTz : T.size = n := by rw [← hT, str_size, hn]
  have HT : Hid (∀ (k : Nat) (h : k < T.size), SA[k]? = some (T[k]'h)) := Lib.hid (fun k h => by
    have e : SA = T.data.toList := by rw [← hT, str_data]
    rw [e, List.getElem?_eq_getElem (by rw [← Lib.size_eq]; exact h)]; rfl)
  have hn256 : n ≤ 256 := by rw [← hn]; exact C.lenS
  have HN := Lib.hid hn
  have HTT := Lib.hid hT
  replace C := Lib.hid C
  rw [hT] at c2
  rw [hn] at hmk hC1
  rw [hn]
  clear hW1 hz1 hn hT
  go_enter Tryz.func84, Tryz.ntmps84
  go_wp2_with fail
  refine hC1.out.mono ?_
  rintro e w1 ⟨rfl, R0⟩
  replace R0 := Lib.hid R0
  clear hC1 hmk
  go_wp2
  go_loopg [7, 19] n (fun gk s7 s19 wr => ∃ (k : Nat) (sv1 : Value) (vals1 : List Value) (g : Nat → Int), k + gk = n ∧ s19 = .int .i64 k ∧ Hid (RwI W wr base b nb P SA f cl m ss sv vals l k sv1 vals1 g))
  case atStart => exact ⟨0, sv, vals, _, by omega, rfl, R0⟩
  case round =>
    obtain ⟨k, sv1, vals1, g, hkg, rfl, HR⟩ := hrel
    clear R0
    cases gk with
    | zero =>
      have hkz : ¬ ((k : Int) < (n : Int)) := by omega
      have hkn : k = n := by omega
      go_wp2
      go_ret
      exact ⟨rfl, sv1, vals1, g, hkn ▸ HR.out⟩
    | succ g' =>
      have hkz : (k : Int) < (n : Int) := by omega
      have hkn : k < n := by omega
      have hkT : k < T.size := by omega
      have hRn := HR.out.nums
      rw [HN.out] at hRn
      have hRs := HR.out.stand
      rw [HN.out] at hRs
      have ck := World.rowIs.cell hRn (i := k) hkn
      have c0 := World.rowIs.cell hRn (i := 0) (by omega)
      have fk := World.rowIs.frozen hRn k
      have cs := World.rowIs.cell hRs (i := k) hkn
      clear hRn hRs
      have hc := HT.out k hkT
      obtain ⟨c, hcT⟩ : ∃ c : UInt8, T[k]'hkT = c := ⟨_, rfl⟩
      rw [hcT] at hc
      replace hc := Lib.hid hc
      by_cases hq : 0 < k ∧ standF P cl l k = false
      · obtain ⟨hk0, hst⟩ := hq
        rw [hst] at cs
        have hk0z : (0 : Int) < (k : Int) := by omega
        have hd0 : decide ((0 : Int) < (k : Int)) = true := by simpa using hk0
        have hfin : Hid (RwI W (wr.setCell ⟨W.heap.size, k, none⟩ (.int .i64 (g 0))) base b nb P SA f cl m ss sv vals l (k + 1) sv1 vals1 (fun j => if j = k then g 0 else g j)) := Lib.hid (by
          have R := HR.out
          have C := C.out
          obtain ⟨e1, e2⟩ := R.row.quiet hc.out hk0 C.fits.head (quiet_cls C.cls C.nodup hc.out hst)
          have ek : addsL ss ((nextsL (cntL f P) SA l).take (k + 1)) = addsL ss ((nextsL (cntL f P) SA l).take k) := by
            rw [take_next _ _ _ hc.out, addsL_snoc, e1]
          have hWb : W.heap.size ≠ b := fun e => by have := C.bi.obj.lt; omega
          have hWm : W.heap.size ≠ m := fun e => by obtain ⟨M, hM, _⟩ := C.bi.map; have := hM.lt; omega
          refine ⟨by rw [ek]; exact R.bi.setOther _ _ hWb hWm R.nr (R.nvne C), R.nums.put k _, by rw [ek]; exact e2, World.rowIs.setOther R.stand (show W.heap.size + 1 ≠ W.heap.size by omega) _, R.off.set (Nat.le_refl _) _ _, R.news, R.nr, R.ns, R.nv⟩)
        clear hst
        go_wp2
        go_roundg g'
        case measure => omega
        case rel => exact ⟨k + 1, sv1, vals1, _, by omega, iv (by omega), hfin⟩
      · have hcm : c ∈ SA := List.mem_iff_getElem?.2 ⟨k, hc.out⟩
        have RS : Hid (∀ w', Below wr.heap.size wr w' → Calls Tryz.prog 116 #[.pointer (some ⟨nb, 0, none⟩), lv, .int .u8 (c.toNat : Int)] w' fun e w6 => ∃ v, e = .returned v ∧ w6.ownsRow wr.heap.size 3 1 v (stepL (cntL f P) l c).length ((stepL (cntL f P) l c).map (Value.int .i64)) ∧ Below wr.heap.size wr w6 ∧ Off b m sv wr w6) :=
          Lib.hid (fun w' hb => C.out.step HR.out.off hb hcm)
        obtain ⟨q, hqq⟩ : ∃ q : Int, ((addL (addsL ss ((nextsL (cntL f P) SA l).take k)) (stepL (cntL f P) l c)).idxOf (stepL (cntL f P) l c) : Int) = q := ⟨_, rfl⟩
        have RN : Hid (∀ w' v, Below wr.heap.size wr w' → w'.ownsRow wr.heap.size 3 1 v (stepL (cntL f P) l c).length ((stepL (cntL f P) l c).map (Value.int .i64)) → Calls Tryz.prog 82 #[.pointer (some ⟨b, 0, none⟩), v] w' fun e w7 => e = .returned (.int .i64 q) ∧
            (w7.cell? ⟨b, 0, none⟩ = some (.pointer (some ⟨nb, 0, none⟩)) ∧ w7.cell? ⟨b, 2, none⟩ = some (.string T)) ∧ ((w7.setCell ⟨W.heap.size, k, none⟩ (.int .i64 q)).cell? ⟨b, 0, none⟩ = some (.pointer (some ⟨nb, 0, none⟩)) ∧ (w7.setCell ⟨W.heap.size, k, none⟩ (.int .i64 q)).cell? ⟨b, 2, none⟩ = some (.string T)) ∧ w7.cell? ⟨W.heap.size, k, none⟩ = some (.int .i64 (g k)) ∧ w7.frozen? ⟨W.heap.size, k, none⟩ = false ∧
            ∃ sv2 vals2 g2, Hid (RwI W (w7.setCell ⟨W.heap.size, k, none⟩ (.int .i64 q)) base b nb P SA f cl m ss sv vals l (k + 1) sv2 vals2 g2)) := Lib.hid (fun w' v hb ho => by
          have R := HR.out
          have C := C.out
          have := R.num C (w' := w') (v := v) hb hc.out ho
          rw [hqq] at this
          refine this.mono ?_
          rintro e w7 ⟨rfl, ho7, sv2, vals2, h7⟩
          have hWb : W.heap.size ≠ b := fun e => by have := C.bi.obj.lt; omega
          have hWm : W.heap.size ≠ m := fun e => by obtain ⟨M, hM, _⟩ := C.bi.map; have := hM.lt; omega
          have hO : BldAt w7 b nb P SA cl m sv2 := h7.bi.obj.same (Below.heap_setCell _ _ _ _ (Ne.symm hWb)).symm
          have hnm : NumsAt w7 W.heap.size SA.length g := World.rowIs.of_block R.nums (ho7.block _ (World.rowIs.lt R.nums) hWb hWm R.nr)
          have h2 := hO.c2
          have h2' := h7.bi.obj.c2
          rw [HTT.out] at h2 h2'
          exact ⟨rfl, ⟨hO.c0, h2⟩, ⟨h7.bi.obj.c0, h2'⟩, World.rowIs.cell hnm (i := k) (by rw [HN.out]; exact hkn), World.rowIs.frozen hnm k, sv2, vals2, _, Lib.hid h7⟩)
        have RA : Hid (∀ w', Below wr.heap.size wr w' → w'.cell? ⟨b, 0, none⟩ = some (.pointer (some ⟨nb, 0, none⟩)) ∧ w'.cell? ⟨b, 2, none⟩ = some (.string T)) := Lib.hid (fun w' hb => by
          have R := HR.out
          have hO := (R.bi.later hb).obj
          refine ⟨hO.c0, ?_⟩
          have := hO.c2
          rwa [HTT.out] at this)
        obtain ⟨cb0, cb2⟩ := RA.out wr (Below.refl _ _)
        have hJ0 : Below wr.heap.size wr wr.drew := (Below.refl _ _).drew
        have hdd : (decide ((0 : Int) < (k : Int)) && !standF P cl l k) = false := by
          by_cases h0 : 0 < k
          · have : standF P cl l k = true := by
              cases e : standF P cl l k with
              | true => rfl
              | false => exact absurd ⟨h0, e⟩ hq
            rw [this]; simp
          · rw [decide_eq_false (by omega)]; rfl
        by_cases h0 : 0 < k
        · have hk0z : (0 : Int) < (k : Int) := by omega
          have hst : standF P cl l k = true := by
            cases e : standF P cl l k with
            | true => rfl
            | false => exact absurd ⟨h0, e⟩ hq
          rw [hst] at cs
          clear hq hqq hst hdd hc HT HN HTT
          go_wp2
          go_region_held3 (fun w' => w'.cell? ⟨b, 0, none⟩ = some (.pointer (some ⟨nb, 0, none⟩)) ∧ w'.cell? ⟨b, 2, none⟩ = some (.string T)) (first | exact RA.out _ (by assumption) | assumption)
            (first
            | (go_at_call 116; refine (RS.out _ (by assumption)).mono ?_; rintro e w6 ⟨v6, rfl, ho6, hj6, hk6⟩)
            | (go_at_call 82; refine (RN.out _ v6 (by assumption) (by assumption)).mono ?_; rintro e w7 ⟨rfl, hs7, hs8, hc7, hz7, sv2, vals2, g2, hf7⟩))
          all_goals
            go_wp2
            go_roundg g'
            case measure => omega
            case rel => exact ⟨k + 1, sv2, vals2, g2, by omega, iv (by omega), hf7⟩
        · have hk0z : ¬ ((0 : Int) < (k : Int)) := by omega
          clear hq hqq hdd hc HT HN HTT cs
          go_wp2
          go_region_held3 (fun w' => w'.cell? ⟨b, 0, none⟩ = some (.pointer (some ⟨nb, 0, none⟩)) ∧ w'.cell? ⟨b, 2, none⟩ = some (.string T)) (first | exact RA.out _ (by assumption) | assumption)
            (first
            | (go_at_call 116; refine (RS.out _ (by assumption)).mono ?_; rintro e w6 ⟨v6, rfl, ho6, hj6, hk6⟩)
            | (go_at_call 82; refine (RN.out _ v6 (by assumption) (by assumption)).mono ?_; rintro e w7 ⟨rfl, hs7, hs8, hc7, hz7, sv2, vals2, g2, hf7⟩))
          all_goals
            go_wp2
            go_roundg g'
            case measure => omega
            case rel => exact ⟨k + 1, sv2, vals2, g2, by omega, iv (by omega), hf7⟩
end
end Go.Proofs.YtnpgmekgmelamaaGreat
