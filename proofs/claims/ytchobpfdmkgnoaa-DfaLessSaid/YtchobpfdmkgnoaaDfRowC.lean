/-
  What is proved: what (*builder).row does (the walk).
-/
import Derived.Test.YtchobpfdmkgnoaaDfRowB
namespace Go.Proofs.Ytchobpfdmkgnoaa
open Go.RowKit Go.Shelf Go.Maps

/-- What a round of row finds. -/
structure RwI (W wr : World) (base b nb : Nat) (P SA : List UInt8) (f : Bool) (cl : Nat → Nat) (m : Nat) (ss : List (List Int)) (sv : Value) (vals : List Value) (l : List Int) (k : Nat) (sv1 : Value) (vals1 : List Value) (g : Nat → Int) : Prop where
  bi : BI wr base b nb P SA cl m (addsL ss ((nextsL (cntL f P) SA l).take k)) sv1 vals1
  nums : NumsAt wr W.heap.size SA.length g
  row : RowTo (cntL f P) SA (addsL ss ((nextsL (cntL f P) SA l).take k)) l k g
  stand : SetAt wr (W.heap.size + 1) SA.length (standF P cl l)
  off : Off b m sv W wr
  news : NewS sv sv1 W
  nr : sv1.ownBlock ≠ some W.heap.size
  ns : sv1.ownBlock ≠ some (W.heap.size + 1)
  nv : ∀ x, x ∈ vals1 → x ∈ vals ∨ ∀ k, x.ownBlock = some k → W.heap.size < k

/-- What stays as it is throughout. -/
structure RwC (W : World) (base b nb : Nat) (P SA : List UInt8) (f : Bool) (cl : Nat → Nat) (m : Nat) (ss : List (List Int)) (sv : Value) (vals : List Value) (lv : Value) (l : List Int) : Prop where
  bi : BI W base b nb P SA cl m ss sv vals
  nfa : NfaAt W nb P f
  nb : nb < base
  base : base ≤ W.heap.size
  fits : Fits (cntL f P) SA
  nodup : SA.Nodup
  cnt : ∀ c, c ∈ SA → cntC f c = c
  cls : ∀ c : UInt8, cl c.toNat = clsL SA (cntC f c)
  len : P.length ≤ 255
  noSt : noSt P
  lenS : SA.length ≤ 256
  ints : Ints W lv l
  small : Small l
  lenL : l.length ≤ 256
  o1 : lv.ownBlock ≠ some b
  o2 : lv.ownBlock ≠ some m
  o3 : ∀ k, lv.ownBlock = some k → sv.ownBlock ≠ some k ∧ k < W.heap.size
  few : ss.length ≤ 50000

section
variable {W : World} {base b nb : Nat} {P SA : List UInt8} {f : Bool} {cl : Nat → Nat} {m : Nat} {ss : List (List Int)} {sv : Value} {vals : List Value} {lv : Value} {l : List Int}

theorem addL_len (ss : List (List Int)) (l : List Int) : (addL ss l).length ≤ ss.length + 1 := by unfold addL; split <;> simp
theorem addsL_len : ∀ (ls ss : List (List Int)), (addsL ss ls).length ≤ ss.length + ls.length
  | [], ss => by simp [addsL]
  | l :: ls, ss => by
    rw [addsL_cons]
    have h1 := addsL_len ls (addL ss l)
    have h2 := addL_len ss l
    simp only [List.length_cons]; omega

theorem RwC.fewK (C : RwC W base b nb P SA f cl m ss sv vals lv l) (k : Nat) : (addsL ss ((nextsL (cntL f P) SA l).take k)).length ≤ 100000 := by
  have h1 := addsL_len ((nextsL (cntL f P) SA l).take k) ss
  have h2 : ((nextsL (cntL f P) SA l).take k).length ≤ SA.length := by
    rw [List.length_take]; unfold nextsL; rw [List.length_map]; exact Nat.min_le_right _ _
  have := C.few; have := C.lenS; omega
theorem RwC.belowB (C : RwC W base b nb P SA f cl m ss sv vals lv l) {w' : World} (h : Off b m sv W w') : Below base W w' := h.below C.base C.bi.hb C.bi.hm (fun k hk => (C.bi.own.lt k hk).1)
theorem RwC.nfaAt (C : RwC W base b nb P SA f cl m ss sv vals lv l) {w' : World} (h : Off b m sv W w') : NfaAt w' nb P f := C.nfa.below (C.belowB h) C.nb
theorem RwC.intsAt (C : RwC W base b nb P SA f cl m ss sv vals lv l) {w' : World} (h : Off b m sv W w') : Ints w' lv l :=
  C.ints.kept (fun k hk hlt => h.block k hlt (fun e => C.o1 (by rw [hk, e])) (fun e => C.o2 (by rw [hk, e])) (C.o3 k hk).1) h.size

theorem RwI.nvne (C : RwC W base b nb P SA f cl m ss sv vals lv l) {wr : World} {k : Nat} {sv1 : Value} {vals1 : List Value} {g : Nat → Int} (R : RwI W wr base b nb P SA f cl m ss sv vals l k sv1 vals1 g) : ∀ x, x ∈ vals1 → x.ownBlock ≠ some W.heap.size := fun x hx e => by
  rcases R.nv x hx with h | h
  · obtain ⟨j, hj⟩ := List.mem_iff_getElem?.1 h
    have := ((C.bi.rows j x hj).2.2.2 _ e).2; omega
  · have := h _ e; omega

/-- Step, from a round's world on. -/
theorem RwC.step (C : RwC W base b nb P SA f cl m ss sv vals lv l) {wr w' : World} (h : Off b m sv W wr) (hb : Below wr.heap.size wr w') {c : UInt8} (hc : c ∈ SA) :
    Calls Try.prog 42 #[.pointer (some ⟨nb, 0, none⟩), lv, .int .u8 (c.toNat : Int)] w' fun e w6 => ∃ v, e = .returned v ∧ w6.ownsRow wr.heap.size 3 1 v (stepL (cntL f P) l c).length ((stepL (cntL f P) l c).map (Value.int .i64)) ∧ Below wr.heap.size wr w6 ∧ Off b m sv wr w6 := by
  have hn := (C.nfaAt h).below hb (C.nfaAt h).lt
  have hi := (C.intsAt h).below hb
  have := take_own hn (by have := C.len; omega) C.noSt hi (by have := C.lenL; omega) c
  refine this.mono ?_
  rintro e w6 ⟨v, rfl, ho, hb6⟩
  rw [C.cnt c hc, ← cntL_len f P] at ho
  have hb' := hb.trans (hb6.mono hb.size)
  exact ⟨v, rfl, own_base ho hb.size, hb', Off.of_below hb'⟩

/-- number, behind it. -/
theorem RwI.num (C : RwC W base b nb P SA f cl m ss sv vals lv l) {wr w' : World} {k : Nat} {sv1 : Value} {vals1 : List Value} {g : Nat → Int} (R : RwI W wr base b nb P SA f cl m ss sv vals l k sv1 vals1 g) (hb : Below wr.heap.size wr w') {c : UInt8} {v : Value}
    (hc : SA[k]? = some c) (ho : w'.ownsRow wr.heap.size 3 1 v (stepL (cntL f P) l c).length ((stepL (cntL f P) l c).map (Value.int .i64))) :
    Calls Try.prog 24 #[.pointer (some ⟨b, 0, none⟩), v] w' fun e w7 => e = .returned (.int .i64 ((addL (addsL ss ((nextsL (cntL f P) SA l).take k)) (stepL (cntL f P) l c)).idxOf (stepL (cntL f P) l c) : Int)) ∧
      Off b m sv1 wr w7 ∧ ∃ sv2 vals2, RwI W (w7.setCell ⟨W.heap.size, k, none⟩ (.int .i64 ((addL (addsL ss ((nextsL (cntL f P) SA l).take k)) (stepL (cntL f P) l c)).idxOf (stepL (cntL f P) l c) : Int))) base b nb P SA f cl m ss sv vals l (k + 1) sv2 vals2 (fun j => if j = k then ((addL (addsL ss ((nextsL (cntL f P) SA l).take k)) (stepL (cntL f P) l c)).idxOf (stepL (cntL f P) l c) : Int) else g j) := by
  have hI' := R.bi.later hb
  have hlt := ho.lt
  have hbl := R.bi.obj.lt
  have hml : m < wr.heap.size := by obtain ⟨M, hM, _⟩ := R.bi.map; exact hM.lt
  have hsl : ∀ q, sv1.ownBlock = some q → q < wr.heap.size := fun q hq => (R.bi.own.lt q hq).2
  have hone : v.oneCell' = true := by obtain ⟨a, cap, rfl⟩ := row_slice ho; rfl
  have hB : (cntL f P).length = P.length := cntL_len f P
  have hRs := R.off.size
  refine (number_any hI' (Ints.of_own ho) (small_ints (by have := C.len; omega)) (Nat.le_trans (intsF_len _ _) (by have := C.len; omega)) (C.fewK k) (by have := C.base; have := hb.size; omega) hone (fun e => by have := (hlt b e).1; omega) (fun e => by have := (hlt m e).1; omega) (fun q hq => ⟨fun e => by have := (hlt q hq).1; have := hsl q e; omega, (hlt q hq).2⟩)).mono ?_
  rintro e w7 ⟨rfl, sv2, vals2, hI7, hO7, hN7, hV7⟩
  have hOr : Off b m sv1 wr w7 := (Off.of_below hb).trans (NewS.refl _ _) hO7
  have hNr : NewS sv1 sv2 wr := (NewS.refl sv1 wr).trans hb.size hN7
  have hNW : NewS sv sv2 W := R.news.trans hRs hNr
  have hrl : W.heap.size < wr.heap.size := World.rowIs.lt R.nums
  have hstl : W.heap.size + 1 < wr.heap.size := World.rowIs.lt R.stand
  have hWb : W.heap.size ≠ b := fun e => by have := C.bi.obj.lt; omega
  have hWm : W.heap.size ≠ m := fun e => by obtain ⟨M, hM, _⟩ := C.bi.map; have := hM.lt; omega
  have hsb : W.heap.size + 1 ≠ b := fun e => by have := C.bi.obj.lt; omega
  have hsm : W.heap.size + 1 ≠ m := fun e => by obtain ⟨M, hM, _⟩ := C.bi.map; have := hM.lt; omega
  have hnr : sv2.ownBlock ≠ some W.heap.size := fun e => by
    rcases hNr _ e with e | e
    · exact R.nr e
    · omega
  have hns : sv2.ownBlock ≠ some (W.heap.size + 1) := fun e => by
    rcases hNr _ e with e | e
    · exact R.ns e
    · omega
  have hnums : NumsAt w7 W.heap.size SA.length g := World.rowIs.of_block R.nums (hOr.block _ hrl hWb hWm R.nr)
  have hst : SetAt w7 (W.heap.size + 1) SA.length (standF P cl l) := World.rowIs.of_block R.stand (hOr.block _ hstl hsb hsm R.ns)
  have hnv : ∀ x, x ∈ vals2 → x.ownBlock ≠ some W.heap.size := by
    intro x hx e
    rcases hV7 x hx with h | h
    · exact R.nvne C x h e
    · subst h; have := (hlt _ e).1; omega
  have hnv2 : ∀ x, x ∈ vals2 → x ∈ vals ∨ ∀ k, x.ownBlock = some k → W.heap.size < k := by
    intro x hx
    rcases hV7 x hx with h | h
    · exact R.nv x h
    · subst h; exact .inr (fun k hk => by have := (hlt k hk).1; omega)
  have ek : addsL ss ((nextsL (cntL f P) SA l).take (k + 1)) = addL (addsL ss ((nextsL (cntL f P) SA l).take k)) (stepL (cntL f P) l c) := by
    rw [take_next _ _ _ hc, addsL_snoc]
  refine ⟨rfl, hOr, sv2, vals2, ⟨?_, ?_, ?_, ?_, ?_, hNW, hnr, hns, hnv2⟩⟩
  · rw [ek]; exact hI7.setOther _ _ hWb hWm hnr hnv
  · exact hnums.put k _
  · rw [ek]; exact R.row.next hc
  · exact World.rowIs.setOther hst (show W.heap.size + 1 ≠ W.heap.size by omega) _
  · exact (R.off.trans R.news hOr).set (Nat.le_refl _) _ _

set_option maxRecDepth 1000000 in
set_option maxHeartbeats 8000000 in
theorem row_any (C : RwC W base b nb P SA f cl m ss sv vals lv l) :
    Calls Try.prog 26 #[.pointer (some ⟨b, 0, none⟩), lv] W fun e w' => e = .returned (.slice (some ⟨W.heap.size, 0, none⟩) SA.length SA.length) ∧ ∃ sv' vals' g, RwI W w' base b nb P SA f cl m ss sv vals l SA.length sv' vals' g := by
  have hmk := make_ints SA.length (by have := C.lenS; omega)
  have c2 := C.bi.obj.c2
  have hW1 : Below W.heap.size W (W.alloc (.cells (madeCells #[.int .i64 0] SA.length) 3)) := (Below.refl _ _).alloc (Nat.le_refl _) _
  have hz1 : (W.alloc (.cells (madeCells #[.int .i64 0] SA.length) 3)).heap.size = W.heap.size + 1 := by simp
  have hC1 : Hid (Calls Try.prog 41 #[.pointer (some ⟨b, 0, none⟩), lv] (W.alloc (.cells (madeCells #[.int .i64 0] SA.length) 3)) fun e w' => e = .returned (.slice (some ⟨W.heap.size + 1, 0, none⟩) SA.length SA.length) ∧ RwI W w' base b nb P SA f cl m ss sv vals l 0 sv vals (fun _ => 0)) := Lib.hid (by
    have := standing_any (C.bi.obj.same (hW1.block b C.bi.obj.lt)) (fun i hi => by
      have := C.cls (UInt8.ofNat i)
      rw [UInt8.toNat_ofNat', Nat.mod_eq_of_lt (by omega)] at this
      rw [this]; exact clsL_lt C.fits.pos _) (C.ints.below hW1) C.small (by have := C.lenL; omega) (by have := C.lenS; omega)
    rw [hz1] at this
    refine this.mono ?_
    rintro e w' ⟨rfl, hs, hb⟩
    have hb' := hW1.trans (hb.mono (by omega))
    have hsz := hb.size
    refine ⟨rfl, ⟨?_, ?_, ?_, hs, Off.of_below hb', NewS.refl _ _, ?_, ?_, ?_⟩⟩
    · rw [List.take_zero]; exact C.bi.later hb'
    · exact World.rowIs.of_block (nums_made W SA.length) (hb.block _ (by omega))
    · intro j c hj; exact absurd hj (Nat.not_lt_zero j)
    · intro e; have := (C.bi.own.lt _ e).2; omega
    · intro e; have := (C.bi.own.lt _ e).2; omega
    · exact fun x hx => .inl hx)
  obtain ⟨n, hn⟩ : ∃ n, SA.length = n := ⟨_, rfl⟩
  obtain ⟨T, hT⟩ : ∃ T, str SA = T := ⟨_, rfl⟩
  have hTz : T.size = n := by rw [← hT, str_size, hn]
  have HT : Hid (∀ (k : Nat) (h : k < T.size), SA[k]? = some (T[k]'h)) := Lib.hid (fun k h => by
    have e : SA = T.data.toList := by rw [← hT, str_data]
    rw [e, List.getElem?_eq_getElem (by rw [← Lib.size_eq]; exact h)]; rfl)
  have hn256 : n ≤ 256 := by rw [← hn]; exact C.lenS
  have HN := Lib.hid hn
  have HTT := Lib.hid hT
  replace C := Lib.hid C
  rw [hT] at c2
  rw [hn] at hmk hC1
  rw [hn]
  clear hW1 hz1 hn hT
  go_enter Try.func26, Try.ntmps26
  go_wp2_with fail
  refine hC1.out.mono ?_
  rintro e w1 ⟨rfl, R0⟩
  replace R0 := Lib.hid R0
  clear hC1 hmk
  go_wp2
  go_loopg [7, 19] n (fun gk s7 s19 wr => ∃ (k : Nat) (sv1 : Value) (vals1 : List Value) (g : Nat → Int), k + gk = n ∧ s19 = .int .i64 k ∧ Hid (RwI W wr base b nb P SA f cl m ss sv vals l k sv1 vals1 g))
  case atStart => exact ⟨0, sv, vals, _, by omega, rfl, R0⟩
  case round =>
    obtain ⟨k, sv1, vals1, g, hkg, rfl, HR⟩ := hrel
    clear R0
    cases gk with
    | zero =>
      have hkz : ¬ ((k : Int) < (n : Int)) := by omega
      have hkn : k = n := by omega
      go_wp2
      go_ret
      exact ⟨rfl, sv1, vals1, g, hkn ▸ HR.out⟩
    | succ g' =>
      have hkz : (k : Int) < (n : Int) := by omega
      have hkn : k < n := by omega
      have hkT : k < T.size := by omega
      have hRn := HR.out.nums
      rw [HN.out] at hRn
      have hRs := HR.out.stand
      rw [HN.out] at hRs
      have ck := World.rowIs.cell hRn (i := k) hkn
      have c0 := World.rowIs.cell hRn (i := 0) (by omega)
      have fk := World.rowIs.frozen hRn k
      have cs := World.rowIs.cell hRs (i := k) hkn
      clear hRn hRs
      have hc := HT.out k hkT
      obtain ⟨c, hcT⟩ : ∃ c : UInt8, T[k]'hkT = c := ⟨_, rfl⟩
      rw [hcT] at hc
      replace hc := Lib.hid hc
      by_cases hq : 0 < k ∧ standF P cl l k = false
      · obtain ⟨hk0, hst⟩ := hq
        rw [hst] at cs
        have hk0z : (0 : Int) < (k : Int) := by omega
        have hd0 : decide ((0 : Int) < (k : Int)) = true := by simpa using hk0
        have hfin : Hid (RwI W (wr.setCell ⟨W.heap.size, k, none⟩ (.int .i64 (g 0))) base b nb P SA f cl m ss sv vals l (k + 1) sv1 vals1 (fun j => if j = k then g 0 else g j)) := Lib.hid (by
          have R := HR.out
          have C := C.out
          obtain ⟨e1, e2⟩ := R.row.quiet hc.out hk0 C.fits.head (quiet_cls C.cls C.nodup hc.out hst)
          have ek : addsL ss ((nextsL (cntL f P) SA l).take (k + 1)) = addsL ss ((nextsL (cntL f P) SA l).take k) := by
            rw [take_next _ _ _ hc.out, addsL_snoc, e1]
          have hWb : W.heap.size ≠ b := fun e => by have := C.bi.obj.lt; omega
          have hWm : W.heap.size ≠ m := fun e => by obtain ⟨M, hM, _⟩ := C.bi.map; have := hM.lt; omega
          refine ⟨by rw [ek]; exact R.bi.setOther _ _ hWb hWm R.nr (R.nvne C), R.nums.put k _, by rw [ek]; exact e2, World.rowIs.setOther R.stand (show W.heap.size + 1 ≠ W.heap.size by omega) _, R.off.set (Nat.le_refl _) _ _, R.news, R.nr, R.ns, R.nv⟩)
        clear hst
        go_wp2
        go_roundg g'
        case measure => omega
        case rel => exact ⟨k + 1, sv1, vals1, _, by omega, iv (by omega), hfin⟩
      · have hcm : c ∈ SA := List.mem_iff_getElem?.2 ⟨k, hc.out⟩
        have RS : Hid (∀ w', Below wr.heap.size wr w' → Calls Try.prog 42 #[.pointer (some ⟨nb, 0, none⟩), lv, .int .u8 (c.toNat : Int)] w' fun e w6 => ∃ v, e = .returned v ∧ w6.ownsRow wr.heap.size 3 1 v (stepL (cntL f P) l c).length ((stepL (cntL f P) l c).map (Value.int .i64)) ∧ Below wr.heap.size wr w6 ∧ Off b m sv wr w6) :=
          Lib.hid (fun w' hb => C.out.step HR.out.off hb hcm)
        obtain ⟨q, hqq⟩ : ∃ q : Int, ((addL (addsL ss ((nextsL (cntL f P) SA l).take k)) (stepL (cntL f P) l c)).idxOf (stepL (cntL f P) l c) : Int) = q := ⟨_, rfl⟩
        have RN : Hid (∀ w' v, Below wr.heap.size wr w' → w'.ownsRow wr.heap.size 3 1 v (stepL (cntL f P) l c).length ((stepL (cntL f P) l c).map (Value.int .i64)) → Calls Try.prog 24 #[.pointer (some ⟨b, 0, none⟩), v] w' fun e w7 => e = .returned (.int .i64 q) ∧
            (w7.cell? ⟨b, 0, none⟩ = some (.pointer (some ⟨nb, 0, none⟩)) ∧ w7.cell? ⟨b, 2, none⟩ = some (.string T)) ∧ ((w7.setCell ⟨W.heap.size, k, none⟩ (.int .i64 q)).cell? ⟨b, 0, none⟩ = some (.pointer (some ⟨nb, 0, none⟩)) ∧ (w7.setCell ⟨W.heap.size, k, none⟩ (.int .i64 q)).cell? ⟨b, 2, none⟩ = some (.string T)) ∧ w7.cell? ⟨W.heap.size, k, none⟩ = some (.int .i64 (g k)) ∧ w7.frozen? ⟨W.heap.size, k, none⟩ = false ∧
            ∃ sv2 vals2 g2, Hid (RwI W (w7.setCell ⟨W.heap.size, k, none⟩ (.int .i64 q)) base b nb P SA f cl m ss sv vals l (k + 1) sv2 vals2 g2)) := Lib.hid (fun w' v hb ho => by
          have R := HR.out
          have C := C.out
          have := R.num C (w' := w') (v := v) hb hc.out ho
          rw [hqq] at this
          refine this.mono ?_
          rintro e w7 ⟨rfl, ho7, sv2, vals2, h7⟩
          have hWb : W.heap.size ≠ b := fun e => by have := C.bi.obj.lt; omega
          have hWm : W.heap.size ≠ m := fun e => by obtain ⟨M, hM, _⟩ := C.bi.map; have := hM.lt; omega
          have hO : BldAt w7 b nb P SA cl m sv2 := h7.bi.obj.same (Below.heap_setCell _ _ _ _ (Ne.symm hWb)).symm
          have hnm : NumsAt w7 W.heap.size SA.length g := World.rowIs.of_block R.nums (ho7.block _ (World.rowIs.lt R.nums) hWb hWm R.nr)
          have h2 := hO.c2
          have h2' := h7.bi.obj.c2
          rw [HTT.out] at h2 h2'
          exact ⟨rfl, ⟨hO.c0, h2⟩, ⟨h7.bi.obj.c0, h2'⟩, World.rowIs.cell hnm (i := k) (by rw [HN.out]; exact hkn), World.rowIs.frozen hnm k, sv2, vals2, _, Lib.hid h7⟩)
        have RA : Hid (∀ w', Below wr.heap.size wr w' → w'.cell? ⟨b, 0, none⟩ = some (.pointer (some ⟨nb, 0, none⟩)) ∧ w'.cell? ⟨b, 2, none⟩ = some (.string T)) := Lib.hid (fun w' hb => by
          have R := HR.out
          have hO := (R.bi.later hb).obj
          refine ⟨hO.c0, ?_⟩
          have := hO.c2
          rwa [HTT.out] at this)
        obtain ⟨cb0, cb2⟩ := RA.out wr (Below.refl _ _)
        have hJ0 : Below wr.heap.size wr wr.drew := (Below.refl _ _).drew
        have hdd : (decide ((0 : Int) < (k : Int)) && !standF P cl l k) = false := by
          by_cases h0 : 0 < k
          · have : standF P cl l k = true := by
              cases e : standF P cl l k with
              | true => rfl
              | false => exact absurd ⟨h0, e⟩ hq
            rw [this]; simp
          · rw [decide_eq_false (by omega)]; rfl
        by_cases h0 : 0 < k
        · have hk0z : (0 : Int) < (k : Int) := by omega
          have hst : standF P cl l k = true := by
            cases e : standF P cl l k with
            | true => rfl
            | false => exact absurd ⟨h0, e⟩ hq
          rw [hst] at cs
          clear hq hqq hst hdd hc HT HN HTT
          go_wp2
          go_region_held3 (fun w' => w'.cell? ⟨b, 0, none⟩ = some (.pointer (some ⟨nb, 0, none⟩)) ∧ w'.cell? ⟨b, 2, none⟩ = some (.string T)) (first | exact RA.out _ (by assumption) | assumption)
            (first
            | (go_at_call 42; refine (RS.out _ (by assumption)).mono ?_; rintro e w6 ⟨v6, rfl, ho6, hj6, hk6⟩)
            | (go_at_call 24; refine (RN.out _ v6 (by assumption) (by assumption)).mono ?_; rintro e w7 ⟨rfl, hs7, hs8, hc7, hz7, sv2, vals2, g2, hf7⟩))
          all_goals
            go_wp2
            go_roundg g'
            case measure => omega
            case rel => exact ⟨k + 1, sv2, vals2, g2, by omega, iv (by omega), hf7⟩
        · have hk0z : ¬ ((0 : Int) < (k : Int)) := by omega
          clear hq hqq hdd hc HT HN HTT cs
          go_wp2
          go_region_held3 (fun w' => w'.cell? ⟨b, 0, none⟩ = some (.pointer (some ⟨nb, 0, none⟩)) ∧ w'.cell? ⟨b, 2, none⟩ = some (.string T)) (first | exact RA.out _ (by assumption) | assumption)
            (first
            | (go_at_call 42; refine (RS.out _ (by assumption)).mono ?_; rintro e w6 ⟨v6, rfl, ho6, hj6, hk6⟩)
            | (go_at_call 24; refine (RN.out _ v6 (by assumption) (by assumption)).mono ?_; rintro e w7 ⟨rfl, hs7, hs8, hc7, hz7, sv2, vals2, g2, hf7⟩))
          all_goals
            go_wp2
            go_roundg g'
            case measure => omega
            case rel => exact ⟨k + 1, sv2, vals2, g2, by omega, iv (by omega), hf7⟩
end
end Go.Proofs.Ytchobpfdmkgnoaa
