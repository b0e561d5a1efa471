/-
  What is proved: outlawlaw10.IndexScript returns true at any number of states and acts. No conditions. (The walk; the frame lies in XIxLawRS.)
-/
import Derived.Test.YtnpgmekgmelamaaGreatIxRefQ
namespace Go.Proofs.YtnpgmekgmelamaaGreat
open Go.RowKit Go.Shelf Go.Maps

/-- An index and the reference's, side by side. -/
structure PairAt (W : World) (x o : Nat) (L M : List G) (N base : Nat) (col : Nat → Col) (B : Nat) (v : Value) : Prop where
  idx : Idx W x L N base col
  ref : RefAt W o M B v
  fo : col o = .free
  fv : ∀ k, v.ownBlock = some k → col k = .free
theorem PairAt.below {W W' : World} {x o : Nat} {L M : List G} {N base : Nat} {col : Nat → Col} {B : Nat} {v : Value} (h : PairAt W x o L M N base col B v) (hb : Below W.heap.size W W') : PairAt W' x o L M N base col B v :=
  ⟨h.idx.below hb, h.ref.below hb, h.fo, h.fv⟩
theorem PairAt.byRef {W W' : World} {x o : Nat} {L M M' : List G} {N base : Nat} {col : Nat → Col} {B : Nat} {v v' : Value} (h : PairAt W x o L M N base col B v) (hat : OnlyAt o W.heap.size W W') (hr : RefAt W' o M' B v') (hv : v' = v ∨ NewRow W v') : PairAt W' x o L M' N base col B v' := by
  refine ⟨h.idx.same hat.size (fun k hk hc => hat.block k hk (fun e => hc (by rw [e]; exact h.fo))), hr, h.fo, ?_⟩
  rcases hv with rfl | hv
  · exact h.fv
  · exact fun k hk => h.idx.free (.inr (hv k hk))
theorem PairAt.byIdx {W W' : World} {x o : Nat} {L L' M : List G} {N N' base : Nat} {col col' : Nat → Col} {B : Nat} {v : Value} (h : PairAt W x o L M N base col B v) (hI : Idx W' x L' N' base col') (hS : Step col W col' W') : PairAt W' x o L' M N' base col' B v := by
  have hlt : ∀ k, v.ownBlock = some k → k < W.heap.size := fun k hk => (h.ref.row.lt k hk).2
  refine ⟨hI, ⟨(hS.keep o h.ref.lt h.fo).trans h.ref.cell, ?_, h.ref.ne, h.ref.ge⟩, by rw [hS.old o h.ref.lt]; exact h.fo, fun k hk => by rw [hS.old k (hlt k hk)]; exact h.fv k hk⟩
  obtain ⟨hl, hk⟩ := h.ref.row
  refine ⟨hl, ?_⟩
  rcases hk with hk | ⟨g, cap, cur, e1, e2, e3, r⟩
  · exact .inl hk
  · exact .inr ⟨g, cap, cur, e1, e2, (hS.keep g (Array.getElem?_eq_some_iff.1 e3).1 (h.fv g (by rw [e1]; rfl))).trans e3, r⟩

/-- An act in a block of its own. -/
def ActC (W : World) (b : Nat) (k i : Int) (p : ByteArray) (f : Bool) (u : ByteArray) : Prop := W.heap[b]? = some (.cells #[.int .i64 k, .int .i64 i, .string p, .bool f, .string u] 54 (0, 0))
theorem ActC.lt {W : World} {b : Nat} {k i : Int} {p : ByteArray} {f : Bool} {u : ByteArray} (h : ActC W b k i p f u) : b < W.heap.size := (Array.getElem?_eq_some_iff.1 h).1
theorem ActC.cells {W : World} {b : Nat} {k i : Int} {p : ByteArray} {f : Bool} {u : ByteArray} (h : ActC W b k i p f u) : W.cell? ⟨b, 0, none⟩ = some (.int .i64 k) ∧ W.cell? ⟨b, 1, none⟩ = some (.int .i64 i) ∧ W.cell? ⟨b, 2, none⟩ = some (.string p) ∧ W.cell? ⟨b, 3, none⟩ = some (.bool f) ∧ W.cell? ⟨b, 4, none⟩ = some (.string u) := by
  unfold ActC at h
  refine ⟨?_, ?_, ?_, ?_, ?_⟩ <;> simp [World.cell?, h]
theorem ActC.below {W W' : World} {b : Nat} {k i : Int} {p : ByteArray} {f : Bool} {u : ByteArray} (h : ActC W b k i p f u) (hb : Below W.heap.size W W') : ActC W' b k i p f u := (hb.block b h.lt).trans h
theorem Idx.pats {W : World} {x : Nat} {L : List G} {N base : Nat} {col : Nat → Col} (H : Idx W x L N base col) : ∀ g, g ∈ L → g.p.size ≤ 1000000 := by
  obtain ⟨most, bg, bl, bo, cl, co, Fl, ao, H⟩ := H
  exact fun g hg => by have := (check_pos (H.chk g hg)).2; omega
/-- What the two answer, from W on. -/
structure PairDo (W : World) (x o : Nat) (M : List G) (i : Int) (u : ByteArray) (ra : Option Addr) (rc : Nat) : Prop where
  ma : ∀ W', Below W.heap.size W W' → Calls Tryz.prog 34 #[.pointer (some ⟨x, 0, none⟩), .string u] W' fun e w' => ∃ v', e = .returned v' ∧ Below W.heap.size W w' ∧ Ints w' v' ((M.filter (mG u.data.toList)).map (·.id))
  mr : ∀ W', Below W.heap.size W W' → Calls Tryz.prog 35 #[.pointer (some ⟨o, 0, none⟩), .string u] W' fun e w' => ∃ v', e = .returned v' ∧ Below W.heap.size W w' ∧ Ints w' v' ((M.filter (mG u.data.toList)).map (·.id)) ∧ ∀ v'', Ints W' v'' ((M.filter (mG u.data.toList)).map (·.id)) → Ints w' v'' ((M.filter (mG u.data.toList)).map (·.id))
  sm : ∀ W' v1 v2, Below W.heap.size W W' → Ints W' v1 ((M.filter (mG u.data.toList)).map (·.id)) → Ints W' v2 ((M.filter (mG u.data.toList)).map (·.id)) → Calls Tryz.prog 33 #[v1, v2] W' fun e w' => e = .returned (.bool true) ∧ Below W.heap.size W w'
  ln : ∀ W', Below W.heap.size W W' → Calls Tryz.prog 36 #[.pointer (some ⟨x, 0, none⟩)] W' fun e w' => e = .returned (.int .i64 (M.length : Int)) ∧ Below W.heap.size W w'
  ha : ∀ W', Below W.heap.size W W' → Calls Tryz.prog 37 #[.pointer (some ⟨x, 0, none⟩), .int .i64 i] W' fun e w' => e = .returned (.bool (hasG M i)) ∧ Below W.heap.size W w'
  hr : ∀ W', Below W.heap.size W W' → Calls Tryz.prog 38 #[.pointer (some ⟨o, 0, none⟩), .int .i64 i] W' fun e w' => e = .returned (.bool (hasG M i)) ∧ Below W.heap.size W w'
  gl : ∀ W', Below W.heap.size W W' → Calls Tryz.prog 40 #[.pointer (some ⟨x, 0, none⟩)] W' fun e w' => ∃ v', e = .returned v' ∧ Below W.heap.size W w' ∧ GlobsR w' v' M
  sg : ∀ W' v1, Below W.heap.size W W' → GlobsR W' v1 M → Calls Tryz.prog 39 #[v1, .slice ra M.length rc] W' fun e w' => e = .returned (.bool true) ∧ Below W.heap.size W w'
theorem pair_do {W : World} {x o : Nat} {M : List G} {N base : Nat} {col : Nat → Col} {B : Nat} {ra : Option Addr} {rc : Nat} (h : PairAt W x o M M N base col B (.slice ra M.length rc)) (hN : N ≤ 1000000) {i : Int} (hi : (Lit.int .i64 i).wf = true) {u : ByteArray} (hu : u.size ≤ 1000000) : PairDo W x o M i u ra rc := by
  have hl := h.idx.len
  have on : ∀ {W' w' : World}, Below W.heap.size W W' → Below W'.heap.size W' w' → Below W.heap.size W w' := fun h1 h2 => h1.trans (h2.mono h1.size)
  have hil : ((M.filter (mG u.data.toList)).map (·.id)).length ≤ 1000000 := by
    rw [List.length_map]
    have := List.length_filter_le (mG u.data.toList) M
    omega
  refine ⟨fun W' hW => ?_, fun W' hW => ?_, fun W' v1 v2 hW h1 h2 => ?_, fun W' hW => ?_, fun W' hW => ?_, fun W' hW => ?_, fun W' hW => ?_, fun W' v1 hW h1 => ?_⟩
  · refine (imatch_any (h.below hW).idx hN u hu).mono ?_
    rintro e w' ⟨v', ids, rfl, hb, hrow, rfl⟩
    exact ⟨v', rfl, on hW hb, Ints.of_own hrow⟩
  · refine (rmatch_any (h.below hW).ref hl h.idx.pats u hu).mono ?_
    rintro e w' ⟨v', rfl, hO, hb⟩
    exact ⟨v', rfl, on hW hb, hO.ints, fun v'' hv => hv.below hb⟩
  · have := same_any h1 h2 hil
    rw [show (((M.filter (mG u.data.toList)).map (·.id)) == ((M.filter (mG u.data.toList)).map (·.id))) = true by simp] at this
    exact this.mono fun e w' ⟨a, b⟩ => ⟨a, on hW b⟩
  · refine (len_all (h.below hW).idx).mono ?_
    rintro e w' ⟨rfl, rfl⟩
    exact ⟨rfl, hW⟩
  · exact (has_all (h.below hW).idx i hi).mono fun e w' ⟨a, b⟩ => ⟨a, on hW b⟩
  · refine (rhas_any (h.below hW).ref h.idx.srt hl i).mono ?_
    rintro e w' ⟨rfl, rfl⟩
    exact ⟨rfl, hW⟩
  · refine (iglobs_any (h.below hW).idx).mono ?_
    rintro e w' ⟨v', rfl, hO, hb⟩
    exact ⟨v', rfl, on hW hb, hO.reads⟩
  · have := sameG_any h1 (h.below hW).ref.row.reads (by omega)
    rw [decide_eq_true rfl] at this
    exact this.mono fun e w' ⟨a, b⟩ => ⟨a, on hW b⟩

set_option maxRecDepth 100000 in
set_option maxHeartbeats 8000000 in
theorem iscrLaw_any (n : Int) {w : World} {v : Value} {l : List ActA} (hL : ActsL w v l) :
    Calls Tryz.prog 5 #[.int .i64 n, v] w fun e w' => e = .returned (.bool true) ∧ Below w.heap.size w w' := by
  obtain ⟨hA, hok, hmax⟩ := hL
  have C0 := Lib.hid (fun w => ilives_any w)
  have CL : Hid (∀ W, Below w.heap.size w W → Calls Tryz.prog 27 #[v] W fun e w' => e = .returned (.bool (lightL l)) ∧ w' = W) := Lib.hid (fun W hW => light_any (hA.below hW) (by unfold maxLen at hmax; omega))
  by_cases hl : lightL l = true
  · rw [hl] at CL
    obtain ⟨h60, hsz⟩ := lightL_all hl
    have CN := Lib.hid (fun w => inew_any n w)
    have CR := Lib.hid ref_new
    have HSZ := Lib.hid hsz
    have HOK := Lib.hid hok
    obtain ⟨va, vc, rfl⟩ : ∃ va vc, v = .slice va l.length vc := by
      obtain ⟨a, cap, e, _⟩ := hA
      exact ⟨a, cap, e⟩
    have HCELL := Lib.hid hA.cells.2
    clear hA hok hmax hl hsz
    go_enter Tryz.func5, Tryz.ntmps5
    go_wp2_with fail
    refine (C0.out _).mono ?_
    rintro e w0 ⟨rfl, hb0⟩
    go_wp2_with fail
    refine (CL.out _ hb0).mono ?_
    rintro e w0' ⟨rfl, rfl⟩
    go_wp2_with fail
    refine (CN.out _).mono ?_
    rintro e w1 ⟨x, col1, rfl, hI1, hb1⟩
    go_wp2_with fail
    refine (CR.out _).mono ?_
    rintro e w2 ⟨o, vr, rfl, hR2, hb2⟩
    have HB0 := Lib.hid hb0
    have HB2 : Hid (Below w0'.heap.size w0' w2) := Lib.hid (hb1.trans (hb2.mono hb1.size))
    have HP2 : Hid (PairAt w2 x o [] [] 0 w0'.heap.size col1 w1.heap.size vr) := Lib.hid ⟨hI1.below hb2, hR2, hI1.free (.inr hR2.ge), fun k hk => hI1.free (.inr (hR2.row.lt k hk).1)⟩
    have HBO : Hid (w0'.heap.size ≤ o) := Lib.hid (by have := hb1.size; have := hR2.ge; omega)
    clear hb0 hI1 hb1 hR2 hb2 C0 CL CN CR
    go_wp2_with fail
    go_loopg [7] l.length (fun gk s7 wr => ∃ j : Nat, j + gk = l.length ∧ s7 = .int .i64 j ∧ Hid (∃ L col v, PairAt wr x o L L j w0'.heap.size col w1.heap.size v) ∧ Hid (Below w0'.heap.size w0' wr))
    case atStart => exact ⟨0, by omega, rfl, Lib.hid ⟨[], col1, vr, HP2.out⟩, HB2⟩
    case round =>
      clear HP2 HB2
      obtain ⟨j, hjg, rfl, HI, HB⟩ := hrel
      obtain ⟨L, col, v, hP⟩ := HI.out
      clear HI
      by_cases hj : j < l.length
      · have hjz : (j : Int) < (l.length : Int) := by omega
        obtain ⟨bb, off, ea, hc⟩ := HCELL.out j hj
        obtain ⟨c0, c1, c2, c3, c4⟩ := hc wr (HB0.out.trans (HB.out.mono HB0.out.size))
        have HPS : Hid (l[j].p.size ≤ 1000000 ∧ l[j].t.size ≤ 1000000) := Lib.hid (by have := HSZ.out j _ (List.getElem?_eq_getElem hj); omega)
        have HOJ := Lib.hid (HOK.out j _ (List.getElem?_eq_getElem hj))
        obtain ⟨⟨k, i, q, g, u⟩, hx⟩ : ∃ y, l[j] = y := ⟨_, rfl⟩
        rw [hx] at c0 c1 c2 c3 c4 HPS HOJ
        dsimp only at c0 c1 c2 c3 c4 HPS
        have HPP := Lib.hid hP
        subst ea
        clear hx hc hP
        go_upto_region 10 with fail
        obtain ⟨W1, hW1⟩ : ∃ W1, wr.alloc (.cells #[.int .i64 k, .int .i64 i, .string q, .bool g, .string u] 54) = W1 := ⟨_, rfl⟩
        have hbr : Below wr.heap.size wr W1 := by rw [← hW1]; exact (Below.refl _ _).alloc (Nat.le_refl _) _
        have hA1 : ActC W1 wr.heap.size k i q g u := by rw [← hW1]; exact World.alloc_heap_new wr _
        have HP1 := Lib.hid (HPP.out.below hbr)
        have HB1 := Lib.hid (HB.out.trans (hbr.mono HB.out.size))
        have HFA : Hid (col wr.heap.size = .free ∧ wr.heap.size ≠ o) := Lib.hid ⟨HPP.out.idx.free (.inr (Nat.le_refl _)), fun e => by have := HPP.out.ref.lt; omega⟩
        have HA1 := Lib.hid hA1
        rw [hW1]
        obtain ⟨k0, k1, k2, k3, k4⟩ := hA1.cells
        obtain ⟨wa, hwa⟩ : ∃ wa, wr.heap.size = wa := ⟨_, rfl⟩
        rw [hwa] at HFA HA1 k0 k1 k2 k3 k4
        rw [hwa]
        clear hW1 hbr hA1 HPP HB c0 c1 c2 c3 c4 hwa
        obtain ⟨E, hE⟩ : ∃ E, doE L ⟨k, i, q, g, u⟩ = E := ⟨_, rfl⟩
        obtain ⟨M, hM⟩ : ∃ M, doL L ⟨k, i, q, g, u⟩ = M := ⟨_, rfl⟩
        have HEM : Hid (doE L ⟨k, i, q, g, u⟩ = E ∧ doL L ⟨k, i, q, g, u⟩ = M) := Lib.hid ⟨hE, hM⟩
        clear hE hM
        go_upto_if 31 with fail
        go_cut [9] from 31 to 43 (fun s9 wc => s9 = .int .i64 E ∧ Hid (∃ v', PairAt wc x o L M j w0'.heap.size col w1.heap.size v' ∧ Below w0'.heap.size w0' wc ∧ ActC wc wa k i q g u))
        case first =>
          have HEND : Hid (∀ W' M' v', OnlyAt o W1.heap.size W1 W' → RefAt W' o M' w1.heap.size v' → (v' = v ∨ NewRow W1 v') → PairAt W' x o L M' j w0'.heap.size col w1.heap.size v' ∧ Below w0'.heap.size w0' W' ∧ ActC W' wa k i q g u) := Lib.hid (fun W' M' v' hat hr hv => ⟨HP1.out.byRef hat hr hv, HB1.out.trans (hat.below HBO.out HB1.out.size), (hat.block wa HA1.out.lt HFA.out.2).trans HA1.out⟩)
          by_cases hk : k.tmod 2 = 0
          · have hk2 : (k.tmod 2 == 0) = true := by simpa using hk
            have C := Lib.hid (rput_any HP1.out.ref HP1.out.idx.srt HP1.out.idx.len i q g)
            rw [show putE L i q = E by rw [← HEM.out.1]; exact (if_pos hk).symm, show putL L i q g = M by rw [← HEM.out.2]; exact (if_pos hk).symm] at C
            clear hk
            go_wp2_with fail
            refine C.out.mono ?_
            rintro e w3 ⟨rfl, ⟨v', hR3, hv3⟩, hat3⟩
            have HE := Lib.hid (HEND.out w3 M v' hat3 hR3 hv3)
            clear hR3 hv3 hat3 C HEND
            go_wp2
            go_meet
            exact ⟨rfl, Lib.hid ⟨v', HE.out⟩⟩
          · have hk2 : (k.tmod 2 == 0) = false := by simpa using hk
            have C := Lib.hid (rdrop_any HP1.out.ref HP1.out.idx.srt HP1.out.idx.len i)
            rw [show dropE L i = E by rw [← HEM.out.1]; exact (if_neg hk).symm, show delG i L = M by rw [← HEM.out.2]; exact (if_neg hk).symm] at C
            clear hk
            go_wp2_with fail
            refine C.out.mono ?_
            rintro e w3 ⟨rfl, ⟨v', hR3, hv3⟩, hat3⟩
            have HE := Lib.hid (HEND.out w3 M v' hat3 hR3 hv3)
            clear hR3 hv3 hat3 C HEND
            go_wp2
            go_meet
            exact ⟨rfl, Lib.hid ⟨v', HE.out⟩⟩
        case rest =>
          obtain ⟨rfl, HC⟩ := hcut
          obtain ⟨v', hP', hB', hA'⟩ := HC.out
          have hd : Below wc.heap.size wc wc.drew := (Below.refl _ _).drew
          obtain ⟨ra, rc, hrv, _⟩ := hP'.ref.row.reads
          subst hrv
          have HS0 : Hid ((wc.drew.cell? ⟨wa, 0, none⟩ = some (.int .i64 k) ∧ wc.drew.cell? ⟨wa, 1, none⟩ = some (.int .i64 i) ∧ wc.drew.cell? ⟨wa, 2, none⟩ = some (.string q) ∧ wc.drew.cell? ⟨wa, 3, none⟩ = some (.bool g) ∧ wc.drew.cell? ⟨wa, 4, none⟩ = some (.string u)) ∧ wc.drew.cell? ⟨o, 0, none⟩ = some (.slice ra M.length rc)) := Lib.hid ⟨(hA'.below hd).cells, (hP'.below hd).ref.c0⟩
          have CX : Hid (Calls Tryz.prog 32 #[.pointer (some ⟨x, 0, none⟩), .agg #[.int .i64 k, .int .i64 i, .string q, .bool g, .string u]] wc.drew fun e w' => e = .returned (.int .i64 E) ∧ ∃ c6, PairAt w' x o M M (j + 1) w0'.heap.size c6 w1.heap.size (.slice ra M.length rc) ∧ Below w0'.heap.size w0' w' ∧ ActC w' wa k i q g u) := Lib.hid (by
            have hPd := hP'.below hd
            have hAd := hA'.below hd
            have hbd := hB'.drew
            refine (do_any hPd.idx ⟨k, i, q, g, u⟩ HOJ.out HPS.out.1 (by omega)).mono ?_
            rintro e w' ⟨rfl, c6, hI, hS⟩
            rw [HEM.out.1]
            rw [HEM.out.2] at hI
            exact ⟨rfl, c6, hPd.byIdx hI hS, hbd.trans (hS.from hbd.size (fun k hk => hPd.idx.free (.inl hk))), (hS.keep wa hAd.lt HFA.out.1).trans hAd⟩)
          have CF : Hid (∀ W c6, PairAt W x o M M (j + 1) w0'.heap.size c6 w1.heap.size (.slice ra M.length rc) → PairDo W x o M i u ra rc) := Lib.hid (fun W c6 h => pair_do h (by omega) HOJ.out.2.1 HPS.out.2)
          have HFB : Hid (∀ W W', Below w0'.heap.size w0' W → Below W.heap.size W W' → Below w0'.heap.size w0' W') := Lib.hid (fun W W' h1 h2 => h1.trans (h2.mono h1.size))
          clear hP' hB' hA' hd HC HP1 HB1 HA1 HEM
          go_upto_region 14 with fail
          refine wp_region_held_drew (S := (fun w' => (w'.cell? ⟨wa, 0, none⟩ = some (.int .i64 k) ∧ w'.cell? ⟨wa, 1, none⟩ = some (.int .i64 i) ∧ w'.cell? ⟨wa, 2, none⟩ = some (.string q) ∧ w'.cell? ⟨wa, 3, none⟩ = some (.bool g) ∧ w'.cell? ⟨wa, 4, none⟩ = some (.string u)) ∧ w'.cell? ⟨o, 0, none⟩ = some (.slice ra M.length rc))) (by kernel_rfl) ?_ (fun hHeld => ?_)
          · exact HS0.out
          refine wpAnyH_take (i := 0) (oi := { dst := some 44, op := Op.move (Operand.tmp 5), type := 49, pos := "law.go:70", after := #[], guard := none }) (v := ?vs1) rfl (by kernel_rfl) (by kernel_rfl) (by kernel_rfl) (fun _ _ _ h => h) (Or.inl ⟨by rfl, ?hs1⟩) (by assumption) ?rs1
          case hs1 => (intro w hSw; (try dsimp only at hSw); go_simp; try with_reducible rfl)
          try simp only [Act.put, List.setIfInBounds_toArray, List.set_cons_zero, List.set_cons_succ]
          refine wpAnyH_take (i := 1) (oi := { dst := some 45, op := Op.load 54 (Operand.tmp 8), type := 54, pos := "law.go:70", after := #[], guard := none }) (v := ?vs2) rfl (by kernel_rfl) (by kernel_rfl) (by kernel_rfl) (fun _ _ _ h => h) (Or.inl ⟨by rfl, ?hs2⟩) (by assumption) ?rs2
          case hs2 => (intro w hSw; (try dsimp only at hSw); go_simp; try with_reducible rfl)
          try simp only [Act.put, List.setIfInBounds_toArray, List.set_cons_zero, List.set_cons_succ]
          refine wpAnyH_take (i := 3) (oi := { dst := some 47, op := Op.move (Operand.tmp 9), type := 33, pos := "law.go:70", after := #[], guard := none }) (v := ?vs3) rfl (by kernel_rfl) (by kernel_rfl) (by kernel_rfl) (fun _ _ _ h => h) (Or.inl ⟨by rfl, ?hs3⟩) (by assumption) ?rs3
          case hs3 => (intro w hSw; (try dsimp only at hSw); go_simp; try with_reducible rfl)
          try simp only [Act.put, List.setIfInBounds_toArray, List.set_cons_zero, List.set_cons_succ]
          refine wpAnyH_ready (rs := [2]) (by kernel_rfl) (by simp) ?_
          refine AllReadyH.cons (o := { dst := some 46, op := Op.call { callee := Callee.value (Operand.func 32), args := #[Operand.tmp 44, Operand.tmp 45], argTypes := #[49, 54] }, type := 33, pos := "law.go:70", after := #[{ on := 0, ground := Ground.data }, { on := 1, ground := Ground.data }], guard := none }) rfl (fun K hK => ?_) AllReadyH.nil
          go_simp
          go_at_call 32
          refine CX.out.mono ?_
          rintro e w6 ⟨rfl, c6, hP6, hJ6, hA6⟩
          refine hK.out _ _ ?_ (fun hHeld => ?_)
          · exact ⟨hA6.cells, hP6.ref.c0⟩
          clear hK K
          have HP6 := Lib.hid hP6
          have HA6 := Lib.hid hA6
          clear hP6 hA6
          have CU := Lib.hid (CF.out _ _ HP6.out)
          try simp only [Act.put, List.setIfInBounds_toArray, List.set_cons_zero, List.set_cons_succ]
          refine wpAnyH_take (i := 4) (oi := { dst := some 48, op := Op.binOp BinOp.neq 33 (Operand.tmp 46) (Operand.tmp 47) 33, type := 4, pos := "law.go:70", after := #[{ on := 2, ground := Ground.data }, { on := 3, ground := Ground.data }], guard := none }) (v := ?vs4) rfl (by kernel_rfl) (by kernel_rfl) (by kernel_rfl) (fun _ _ _ h => h) (Or.inl ⟨by rfl, ?hs4⟩) (by assumption) ?rs4
          case hs4 => (intro w hSw; (try dsimp only at hSw); go_simp; try with_reducible rfl)
          try simp only [Act.put, List.setIfInBounds_toArray, List.set_cons_zero, List.set_cons_succ]
          refine wpAnyH_take (i := 5) (oi := { dst := some 49, op := Op.move (Operand.tmp 48), type := 4, pos := "law.go:70", after := #[{ on := 4, ground := Ground.data }, { on := 2, ground := Ground.chain }], guard := none }) (v := ?vs5) rfl (by kernel_rfl) (by kernel_rfl) (by kernel_rfl) (fun _ _ _ h => h) (Or.inl ⟨by rfl, ?hs5⟩) (by assumption) ?rs5
          case hs5 => (intro w hSw; (try dsimp only at hSw); go_simp; try with_reducible rfl)
          try simp only [Act.put, List.setIfInBounds_toArray, List.set_cons_zero, List.set_cons_succ]
          refine wpAnyH_take (i := 6) (oi := { dst := some 50, op := Op.move (Operand.tmp 5), type := 49, pos := "law.go:70", after := #[{ on := 5, ground := Ground.guard }], guard := some (5, false) }) (v := ?vs6) rfl (by kernel_rfl) (by kernel_rfl) (by kernel_rfl) (fun _ _ _ h => h) (Or.inl ⟨by rfl, ?hs6⟩) (by assumption) ?rs6
          case hs6 => (intro w hSw; (try dsimp only at hSw); go_simp; try with_reducible rfl)
          try simp only [Act.put, List.setIfInBounds_toArray, List.set_cons_zero, List.set_cons_succ]
          refine wpAnyH_take (i := 7) (oi := { dst := some 51, op := Op.fieldAddr 54 (Operand.tmp 8) 4, type := 0, pos := "law.go:70", after := #[{ on := 5, ground := Ground.guard }], guard := some (5, false) }) (v := ?vs7) rfl (by kernel_rfl) (by kernel_rfl) (by kernel_rfl) (fun _ _ _ h => h) (Or.inl ⟨by rfl, ?hs7⟩) (by assumption) ?rs7
          case hs7 => (intro w hSw; (try dsimp only at hSw); go_simp; try with_reducible rfl)
          try simp only [Act.put, List.setIfInBounds_toArray, List.set_cons_zero, List.set_cons_succ]
          refine wpAnyH_take (i := 8) (oi := { dst := some 52, op := Op.load 9 (Operand.tmp 51), type := 9, pos := "law.go:70", after := #[{ on := 7, ground := Ground.data }, { on := 5, ground := Ground.guard }], guard := some (5, false) }) (v := ?vs8) rfl (by kernel_rfl) (by kernel_rfl) (by kernel_rfl) (fun _ _ _ h => h) (Or.inl ⟨by rfl, ?hs8⟩) (by assumption) ?rs8
          case hs8 => (intro w hSw; (try dsimp only at hSw); go_simp; try with_reducible rfl)
          try simp only [Act.put, List.setIfInBounds_toArray, List.set_cons_zero, List.set_cons_succ]
          refine wpAnyH_take (i := 10) (oi := { dst := some 54, op := Op.move (Operand.tmp 6), type := 51, pos := "law.go:70", after := #[{ on := 5, ground := Ground.guard }], guard := some (5, false) }) (v := ?vs9) rfl (by kernel_rfl) (by kernel_rfl) (by kernel_rfl) (fun _ _ _ h => h) (Or.inl ⟨by rfl, ?hs9⟩) (by assumption) ?rs9
          case hs9 => (intro w hSw; (try dsimp only at hSw); go_simp; try with_reducible rfl)
          try simp only [Act.put, List.setIfInBounds_toArray, List.set_cons_zero, List.set_cons_succ]
          refine wpAnyH_take (i := 11) (oi := { dst := some 55, op := Op.fieldAddr 54 (Operand.tmp 8) 4, type := 0, pos := "law.go:70", after := #[{ on := 5, ground := Ground.guard }], guard := some (5, false) }) (v := ?vs10) rfl (by kernel_rfl) (by kernel_rfl) (by kernel_rfl) (fun _ _ _ h => h) (Or.inl ⟨by rfl, ?hs10⟩) (by assumption) ?rs10
          case hs10 => (intro w hSw; (try dsimp only at hSw); go_simp; try with_reducible rfl)
          try simp only [Act.put, List.setIfInBounds_toArray, List.set_cons_zero, List.set_cons_succ]
          refine wpAnyH_take (i := 12) (oi := { dst := some 56, op := Op.load 9 (Operand.tmp 55), type := 9, pos := "law.go:70", after := #[{ on := 11, ground := Ground.data }, { on := 5, ground := Ground.guard }], guard := some (5, false) }) (v := ?vs11) rfl (by kernel_rfl) (by kernel_rfl) (by kernel_rfl) (fun _ _ _ h => h) (Or.inl ⟨by rfl, ?hs11⟩) (by assumption) ?rs11
          case hs11 => (intro w hSw; (try dsimp only at hSw); go_simp; try with_reducible rfl)
          try simp only [Act.put, List.setIfInBounds_toArray, List.set_cons_zero, List.set_cons_succ]
          refine wpAnyH_ready (rs := [9]) (by kernel_rfl) (by simp) ?_
          refine AllReadyH.cons (o := { dst := some 53, op := Op.call { callee := Callee.value (Operand.func 34), args := #[Operand.tmp 50, Operand.tmp 52], argTypes := #[49, 9] }, type := 22, pos := "law.go:70", after := #[{ on := 6, ground := Ground.data }, { on := 8, ground := Ground.data }, { on := 5, ground := Ground.chain }, { on := 5, ground := Ground.guard }], guard := some (5, false) }) rfl (fun K hK => ?_) AllReadyH.nil
          go_simp
          go_at_call 34
          refine (CU.out.ma _ (Below.refl _ _)).mono ?_
          rintro e w9 ⟨v9, rfl, hb9, hi9⟩
          refine hK.out _ _ ?_ (fun hHeld => ?_)
          · exact ⟨(HA6.out.below hb9).cells, (HP6.out.below hb9).ref.c0⟩
          clear hK K
          try simp only [Act.put, List.setIfInBounds_toArray, List.set_cons_zero, List.set_cons_succ]
          refine wpAnyH_ready (rs := [13]) (by kernel_rfl) (by simp) ?_
          refine AllReadyH.cons (o := { dst := some 57, op := Op.call { callee := Callee.value (Operand.func 35), args := #[Operand.tmp 54, Operand.tmp 56], argTypes := #[51, 9] }, type := 22, pos := "law.go:70", after := #[{ on := 10, ground := Ground.data }, { on := 12, ground := Ground.data }, { on := 9, ground := Ground.chain }, { on := 5, ground := Ground.guard }], guard := some (5, false) }) rfl (fun K hK => ?_) AllReadyH.nil
          go_simp
          go_at_call 35
          refine (CU.out.mr _ hb9).mono ?_
          rintro e w13 ⟨v13, rfl, hb13, hi13, hk13⟩
          refine hK.out _ _ ?_ (fun hHeld => ?_)
          · exact ⟨(HA6.out.below hb13).cells, (HP6.out.below hb13).ref.c0⟩
          clear hK K
          try simp only [Act.put, List.setIfInBounds_toArray, List.set_cons_zero, List.set_cons_succ]
          refine wpAnyH_ready (rs := [14]) (by kernel_rfl) (by simp) ?_
          refine AllReadyH.cons (o := { dst := some 58, op := Op.call { callee := Callee.value (Operand.func 33), args := #[Operand.tmp 53, Operand.tmp 57], argTypes := #[22, 22] }, type := 4, pos := "law.go:70", after := #[{ on := 9, ground := Ground.data }, { on := 13, ground := Ground.data }, { on := 13, ground := Ground.chain }, { on := 5, ground := Ground.guard }], guard := some (5, false) }) rfl (fun K hK => ?_) AllReadyH.nil
          go_simp
          go_at_call 33
          refine (CU.out.sm _ _ _ hb13 (hk13 _ hi9) hi13).mono ?_
          rintro e w14 ⟨rfl, hb14⟩
          refine hK.out _ _ ?_ (fun hHeld => ?_)
          · exact ⟨(HA6.out.below hb14).cells, (HP6.out.below hb14).ref.c0⟩
          clear hK K
          try simp only [Act.put, List.setIfInBounds_toArray, List.set_cons_zero, List.set_cons_succ]
          refine wpAnyH_take (i := 15) (oi := { dst := some 59, op := Op.unOp UnOp.not 4 (Operand.tmp 58), type := 4, pos := "law.go:70", after := #[{ on := 14, ground := Ground.data }, { on := 5, ground := Ground.guard }], guard := some (5, false) }) (v := ?vs12) rfl (by kernel_rfl) (by kernel_rfl) (by kernel_rfl) (fun _ _ _ h => h) (Or.inl ⟨by rfl, ?hs12⟩) (by assumption) ?rs12
          case hs12 => (intro w hSw; (try dsimp only at hSw); go_simp; try with_reducible rfl)
          try simp only [Act.put, List.setIfInBounds_toArray, List.set_cons_zero, List.set_cons_succ]
          refine wpAnyH_take (i := 16) (oi := { dst := some 60, op := Op.pick (Operand.tmp 49) (Operand.const (Value.bool true)) (Operand.tmp 59), type := 4, pos := "law.go:70", after := #[{ on := 5, ground := Ground.data }, { on := 15, ground := Ground.data }], guard := none }) (v := ?vs13) rfl (by kernel_rfl) (by kernel_rfl) (by kernel_rfl) (fun _ _ _ h => h) (Or.inl ⟨by rfl, ?hs13⟩) (by assumption) ?rs13
          case hs13 => (intro w hSw; (try dsimp only at hSw); go_simp; try with_reducible rfl)
          try simp only [Act.put, List.setIfInBounds_toArray, List.set_cons_zero, List.set_cons_succ]
          refine wpAnyH_take (i := 17) (oi := { dst := some 61, op := Op.move (Operand.tmp 60), type := 4, pos := "law.go:70", after := #[{ on := 16, ground := Ground.data }, { on := 14, ground := Ground.chain }], guard := none }) (v := ?vs14) rfl (by kernel_rfl) (by kernel_rfl) (by kernel_rfl) (fun _ _ _ h => h) (Or.inl ⟨by rfl, ?hs14⟩) (by assumption) ?rs14
          case hs14 => (intro w hSw; (try dsimp only at hSw); go_simp; try with_reducible rfl)
          try simp only [Act.put, List.setIfInBounds_toArray, List.set_cons_zero, List.set_cons_succ]
          refine wpAnyH_take (i := 18) (oi := { dst := some 62, op := Op.move (Operand.tmp 5), type := 49, pos := "law.go:70", after := #[{ on := 17, ground := Ground.guard }], guard := some (17, false) }) (v := ?vs15) rfl (by kernel_rfl) (by kernel_rfl) (by kernel_rfl) (fun _ _ _ h => h) (Or.inl ⟨by rfl, ?hs15⟩) (by assumption) ?rs15
          case hs15 => (intro w hSw; (try dsimp only at hSw); go_simp; try with_reducible rfl)
          try simp only [Act.put, List.setIfInBounds_toArray, List.set_cons_zero, List.set_cons_succ]
          refine wpAnyH_take (i := 20) (oi := { dst := some 64, op := Op.move (Operand.tmp 6), type := 51, pos := "law.go:70", after := #[{ on := 17, ground := Ground.guard }], guard := some (17, false) }) (v := ?vs16) rfl (by kernel_rfl) (by kernel_rfl) (by kernel_rfl) (fun _ _ _ h => h) (Or.inl ⟨by rfl, ?hs16⟩) (by assumption) ?rs16
          case hs16 => (intro w hSw; (try dsimp only at hSw); go_simp; try with_reducible rfl)
          try simp only [Act.put, List.setIfInBounds_toArray, List.set_cons_zero, List.set_cons_succ]
          refine wpAnyH_take (i := 21) (oi := { dst := some 65, op := Op.nilCheck (Operand.tmp 64), type := 0, pos := "law.go:70", after := #[{ on := 20, ground := Ground.data }, { on := 17, ground := Ground.guard }], guard := some (17, false) }) (v := ?vs17) rfl (by kernel_rfl) (by kernel_rfl) (by kernel_rfl) (fun _ _ _ h => h) (Or.inl ⟨by rfl, ?hs17⟩) (by assumption) ?rs17
          case hs17 => (intro w hSw; (try dsimp only at hSw); go_simp; try with_reducible rfl)
          try simp only [Act.put, List.setIfInBounds_toArray, List.set_cons_zero, List.set_cons_succ]
          refine wpAnyH_take (i := 22) (oi := { dst := some 66, op := Op.fieldAddr 62 (Operand.tmp 65) 0, type := 0, pos := "law.go:70", after := #[{ on := 21, ground := Ground.data }, { on := 17, ground := Ground.guard }], guard := some (17, false) }) (v := ?vs18) rfl (by kernel_rfl) (by kernel_rfl) (by kernel_rfl) (fun _ _ _ h => h) (Or.inl ⟨by rfl, ?hs18⟩) (by assumption) ?rs18
          case hs18 => (intro w hSw; (try dsimp only at hSw); go_simp; try with_reducible rfl)
          try simp only [Act.put, List.setIfInBounds_toArray, List.set_cons_zero, List.set_cons_succ]
          refine wpAnyH_take (i := 23) (oi := { dst := some 67, op := Op.load 60 (Operand.tmp 66), type := 60, pos := "law.go:70", after := #[{ on := 22, ground := Ground.data }, { on := 17, ground := Ground.guard }], guard := some (17, false) }) (v := ?vs19) rfl (by kernel_rfl) (by kernel_rfl) (by kernel_rfl) (fun _ _ _ h => h) (Or.inl ⟨by rfl, ?hs19⟩) (by assumption) ?rs19
          case hs19 => (intro w hSw; (try dsimp only at hSw); go_simp; try with_reducible rfl)
          try simp only [Act.put, List.setIfInBounds_toArray, List.set_cons_zero, List.set_cons_succ]
          refine wpAnyH_take (i := 24) (oi := { dst := some 68, op := Op.call { callee := Callee.builtin Builtin.len, args := #[Operand.tmp 67], argTypes := #[60] }, type := 3, pos := "law.go:70", after := #[{ on := 23, ground := Ground.data }, { on := 17, ground := Ground.guard }], guard := some (17, false) }) (v := ?vs20) rfl (by kernel_rfl) (by kernel_rfl) (by kernel_rfl) (fun _ _ _ h => h) (Or.inl ⟨by rfl, ?hs20⟩) (by assumption) ?rs20
          case hs20 => (intro w hSw; (try dsimp only at hSw); go_simp; try with_reducible rfl)
          try simp only [Act.put, List.setIfInBounds_toArray, List.set_cons_zero, List.set_cons_succ]
          refine wpAnyH_ready (rs := [19]) (by kernel_rfl) (by simp) ?_
          refine AllReadyH.cons (o := { dst := some 63, op := Op.call { callee := Callee.value (Operand.func 36), args := #[Operand.tmp 62], argTypes := #[49] }, type := 3, pos := "law.go:70", after := #[{ on := 18, ground := Ground.data }, { on := 17, ground := Ground.chain }, { on := 17, ground := Ground.guard }], guard := some (17, false) }) rfl (fun K hK => ?_) AllReadyH.nil
          go_simp
          go_at_call 36
          refine (CU.out.ln _ hb14).mono ?_
          rintro e w19 ⟨rfl, hb19⟩
          refine hK.out _ _ ?_ (fun hHeld => ?_)
          · exact ⟨(HA6.out.below hb19).cells, (HP6.out.below hb19).ref.c0⟩
          clear hK K
          try simp only [Act.put, List.setIfInBounds_toArray, List.set_cons_zero, List.set_cons_succ]
          refine wpAnyH_take (i := 25) (oi := { dst := some 69, op := Op.binOp BinOp.neq 3 (Operand.tmp 63) (Operand.tmp 68) 3, type := 4, pos := "law.go:70", after := #[{ on := 19, ground := Ground.data }, { on := 24, ground := Ground.data }, { on := 17, ground := Ground.guard }], guard := some (17, false) }) (v := ?vs21) rfl (by kernel_rfl) (by kernel_rfl) (by kernel_rfl) (fun _ _ _ h => h) (Or.inl ⟨by rfl, ?hs21⟩) (by assumption) ?rs21
          case hs21 => (intro w hSw; (try dsimp only at hSw); go_simp; try with_reducible rfl)
          try simp only [Act.put, List.setIfInBounds_toArray, List.set_cons_zero, List.set_cons_succ]
          refine wpAnyH_take (i := 26) (oi := { dst := some 70, op := Op.pick (Operand.tmp 61) (Operand.const (Value.bool true)) (Operand.tmp 69), type := 4, pos := "law.go:70", after := #[{ on := 17, ground := Ground.data }, { on := 25, ground := Ground.data }], guard := none }) (v := ?vs22) rfl (by kernel_rfl) (by kernel_rfl) (by kernel_rfl) (fun _ _ _ h => h) (Or.inl ⟨by rfl, ?hs22⟩) (by assumption) ?rs22
          case hs22 => (intro w hSw; (try dsimp only at hSw); go_simp; try with_reducible rfl)
          try simp only [Act.put, List.setIfInBounds_toArray, List.set_cons_zero, List.set_cons_succ]
          refine wpAnyH_take (i := 27) (oi := { dst := some 71, op := Op.move (Operand.tmp 70), type := 4, pos := "law.go:70", after := #[{ on := 26, ground := Ground.data }, { on := 19, ground := Ground.chain }], guard := none }) (v := ?vs23) rfl (by kernel_rfl) (by kernel_rfl) (by kernel_rfl) (fun _ _ _ h => h) (Or.inl ⟨by rfl, ?hs23⟩) (by assumption) ?rs23
          case hs23 => (intro w hSw; (try dsimp only at hSw); go_simp; try with_reducible rfl)
          try simp only [Act.put, List.setIfInBounds_toArray, List.set_cons_zero, List.set_cons_succ]
          refine wpAnyH_take (i := 28) (oi := { dst := some 72, op := Op.move (Operand.tmp 5), type := 49, pos := "law.go:70", after := #[{ on := 27, ground := Ground.guard }], guard := some (27, false) }) (v := ?vs24) rfl (by kernel_rfl) (by kernel_rfl) (by kernel_rfl) (fun _ _ _ h => h) (Or.inl ⟨by rfl, ?hs24⟩) (by assumption) ?rs24
          case hs24 => (intro w hSw; (try dsimp only at hSw); go_simp; try with_reducible rfl)
          try simp only [Act.put, List.setIfInBounds_toArray, List.set_cons_zero, List.set_cons_succ]
          refine wpAnyH_take (i := 29) (oi := { dst := some 73, op := Op.fieldAddr 54 (Operand.tmp 8) 1, type := 0, pos := "law.go:70", after := #[{ on := 27, ground := Ground.guard }], guard := some (27, false) }) (v := ?vs25) rfl (by kernel_rfl) (by kernel_rfl) (by kernel_rfl) (fun _ _ _ h => h) (Or.inl ⟨by rfl, ?hs25⟩) (by assumption) ?rs25
          case hs25 => (intro w hSw; (try dsimp only at hSw); go_simp; try with_reducible rfl)
          try simp only [Act.put, List.setIfInBounds_toArray, List.set_cons_zero, List.set_cons_succ]
          refine wpAnyH_take (i := 30) (oi := { dst := some 74, op := Op.load 3 (Operand.tmp 73), type := 3, pos := "law.go:70", after := #[{ on := 29, ground := Ground.data }, { on := 27, ground := Ground.guard }], guard := some (27, false) }) (v := ?vs26) rfl (by kernel_rfl) (by kernel_rfl) (by kernel_rfl) (fun _ _ _ h => h) (Or.inl ⟨by rfl, ?hs26⟩) (by assumption) ?rs26
          case hs26 => (intro w hSw; (try dsimp only at hSw); go_simp; try with_reducible rfl)
          try simp only [Act.put, List.setIfInBounds_toArray, List.set_cons_zero, List.set_cons_succ]
          refine wpAnyH_take (i := 32) (oi := { dst := some 76, op := Op.move (Operand.tmp 6), type := 51, pos := "law.go:70", after := #[{ on := 27, ground := Ground.guard }], guard := some (27, false) }) (v := ?vs27) rfl (by kernel_rfl) (by kernel_rfl) (by kernel_rfl) (fun _ _ _ h => h) (Or.inl ⟨by rfl, ?hs27⟩) (by assumption) ?rs27
          case hs27 => (intro w hSw; (try dsimp only at hSw); go_simp; try with_reducible rfl)
          try simp only [Act.put, List.setIfInBounds_toArray, List.set_cons_zero, List.set_cons_succ]
          refine wpAnyH_take (i := 33) (oi := { dst := some 77, op := Op.fieldAddr 54 (Operand.tmp 8) 1, type := 0, pos := "law.go:70", after := #[{ on := 27, ground := Ground.guard }], guard := some (27, false) }) (v := ?vs28) rfl (by kernel_rfl) (by kernel_rfl) (by kernel_rfl) (fun _ _ _ h => h) (Or.inl ⟨by rfl, ?hs28⟩) (by assumption) ?rs28
          case hs28 => (intro w hSw; (try dsimp only at hSw); go_simp; try with_reducible rfl)
          try simp only [Act.put, List.setIfInBounds_toArray, List.set_cons_zero, List.set_cons_succ]
          refine wpAnyH_take (i := 34) (oi := { dst := some 78, op := Op.load 3 (Operand.tmp 77), type := 3, pos := "law.go:70", after := #[{ on := 33, ground := Ground.data }, { on := 27, ground := Ground.guard }], guard := some (27, false) }) (v := ?vs29) rfl (by kernel_rfl) (by kernel_rfl) (by kernel_rfl) (fun _ _ _ h => h) (Or.inl ⟨by rfl, ?hs29⟩) (by assumption) ?rs29
          case hs29 => (intro w hSw; (try dsimp only at hSw); go_simp; try with_reducible rfl)
          try simp only [Act.put, List.setIfInBounds_toArray, List.set_cons_zero, List.set_cons_succ]
          refine wpAnyH_ready (rs := [31]) (by kernel_rfl) (by simp) ?_
          refine AllReadyH.cons (o := { dst := some 75, op := Op.call { callee := Callee.value (Operand.func 37), args := #[Operand.tmp 72, Operand.tmp 74], argTypes := #[49, 3] }, type := 4, pos := "law.go:70", after := #[{ on := 28, ground := Ground.data }, { on := 30, ground := Ground.data }, { on := 27, ground := Ground.chain }, { on := 27, ground := Ground.guard }], guard := some (27, false) }) rfl (fun K hK => ?_) AllReadyH.nil
          go_simp
          go_at_call 37
          refine (CU.out.ha _ hb19).mono ?_
          rintro e w31 ⟨rfl, hb31⟩
          refine hK.out _ _ ?_ (fun hHeld => ?_)
          · exact ⟨(HA6.out.below hb31).cells, (HP6.out.below hb31).ref.c0⟩
          clear hK K
          try simp only [Act.put, List.setIfInBounds_toArray, List.set_cons_zero, List.set_cons_succ]
          refine wpAnyH_ready (rs := [35]) (by kernel_rfl) (by simp) ?_
          refine AllReadyH.cons (o := { dst := some 79, op := Op.call { callee := Callee.value (Operand.func 38), args := #[Operand.tmp 76, Operand.tmp 78], argTypes := #[51, 3] }, type := 4, pos := "law.go:70", after := #[{ on := 32, ground := Ground.data }, { on := 34, ground := Ground.data }, { on := 31, ground := Ground.chain }, { on := 27, ground := Ground.guard }], guard := some (27, false) }) rfl (fun K hK => ?_) AllReadyH.nil
          go_simp
          go_at_call 38
          refine (CU.out.hr _ hb31).mono ?_
          rintro e w35 ⟨rfl, hb35⟩
          refine hK.out _ _ ?_ (fun hHeld => ?_)
          · exact ⟨(HA6.out.below hb35).cells, (HP6.out.below hb35).ref.c0⟩
          clear hK K
          try simp only [Act.put, List.setIfInBounds_toArray, List.set_cons_zero, List.set_cons_succ]
          refine wpAnyH_take (i := 36) (oi := { dst := some 80, op := Op.binOp BinOp.neq 4 (Operand.tmp 75) (Operand.tmp 79) 4, type := 4, pos := "law.go:70", after := #[{ on := 31, ground := Ground.data }, { on := 35, ground := Ground.data }, { on := 27, ground := Ground.guard }], guard := some (27, false) }) (v := ?vs30) rfl (by kernel_rfl) (by kernel_rfl) (by kernel_rfl) (fun _ _ _ h => h) (Or.inl ⟨by rfl, ?hs30⟩) (by assumption) ?rs30
          case hs30 => (intro w hSw; (try dsimp only at hSw); go_simp; try with_reducible rfl)
          try simp only [Act.put, List.setIfInBounds_toArray, List.set_cons_zero, List.set_cons_succ]
          refine wpAnyH_take (i := 37) (oi := { dst := some 81, op := Op.pick (Operand.tmp 71) (Operand.const (Value.bool true)) (Operand.tmp 80), type := 4, pos := "law.go:70", after := #[{ on := 27, ground := Ground.data }, { on := 36, ground := Ground.data }], guard := none }) (v := ?vs31) rfl (by kernel_rfl) (by kernel_rfl) (by kernel_rfl) (fun _ _ _ h => h) (Or.inl ⟨by rfl, ?hs31⟩) (by assumption) ?rs31
          case hs31 => (intro w hSw; (try dsimp only at hSw); go_simp; try with_reducible rfl)
          try simp only [Act.put, List.setIfInBounds_toArray, List.set_cons_zero, List.set_cons_succ]
          refine wpAnyH_take (i := 38) (oi := { dst := some 82, op := Op.move (Operand.tmp 81), type := 4, pos := "law.go:70", after := #[{ on := 37, ground := Ground.data }, { on := 35, ground := Ground.chain }], guard := none }) (v := ?vs32) rfl (by kernel_rfl) (by kernel_rfl) (by kernel_rfl) (fun _ _ _ h => h) (Or.inl ⟨by rfl, ?hs32⟩) (by assumption) ?rs32
          case hs32 => (intro w hSw; (try dsimp only at hSw); go_simp; try with_reducible rfl)
          try simp only [Act.put, List.setIfInBounds_toArray, List.set_cons_zero, List.set_cons_succ]
          refine wpAnyH_take (i := 39) (oi := { dst := some 83, op := Op.move (Operand.tmp 5), type := 49, pos := "law.go:70", after := #[{ on := 38, ground := Ground.guard }], guard := some (38, false) }) (v := ?vs33) rfl (by kernel_rfl) (by kernel_rfl) (by kernel_rfl) (fun _ _ _ h => h) (Or.inl ⟨by rfl, ?hs33⟩) (by assumption) ?rs33
          case hs33 => (intro w hSw; (try dsimp only at hSw); go_simp; try with_reducible rfl)
          try simp only [Act.put, List.setIfInBounds_toArray, List.set_cons_zero, List.set_cons_succ]
          refine wpAnyH_take (i := 41) (oi := { dst := some 85, op := Op.move (Operand.tmp 6), type := 51, pos := "law.go:70", after := #[{ on := 38, ground := Ground.guard }], guard := some (38, false) }) (v := ?vs34) rfl (by kernel_rfl) (by kernel_rfl) (by kernel_rfl) (fun _ _ _ h => h) (Or.inl ⟨by rfl, ?hs34⟩) (by assumption) ?rs34
          case hs34 => (intro w hSw; (try dsimp only at hSw); go_simp; try with_reducible rfl)
          try simp only [Act.put, List.setIfInBounds_toArray, List.set_cons_zero, List.set_cons_succ]
          refine wpAnyH_take (i := 42) (oi := { dst := some 86, op := Op.nilCheck (Operand.tmp 85), type := 0, pos := "law.go:70", after := #[{ on := 41, ground := Ground.data }, { on := 38, ground := Ground.guard }], guard := some (38, false) }) (v := ?vs35) rfl (by kernel_rfl) (by kernel_rfl) (by kernel_rfl) (fun _ _ _ h => h) (Or.inl ⟨by rfl, ?hs35⟩) (by assumption) ?rs35
          case hs35 => (intro w hSw; (try dsimp only at hSw); go_simp; try with_reducible rfl)
          try simp only [Act.put, List.setIfInBounds_toArray, List.set_cons_zero, List.set_cons_succ]
          refine wpAnyH_take (i := 43) (oi := { dst := some 87, op := Op.fieldAddr 62 (Operand.tmp 86) 0, type := 0, pos := "law.go:70", after := #[{ on := 42, ground := Ground.data }, { on := 38, ground := Ground.guard }], guard := some (38, false) }) (v := ?vs36) rfl (by kernel_rfl) (by kernel_rfl) (by kernel_rfl) (fun _ _ _ h => h) (Or.inl ⟨by rfl, ?hs36⟩) (by assumption) ?rs36
          case hs36 => (intro w hSw; (try dsimp only at hSw); go_simp; try with_reducible rfl)
          try simp only [Act.put, List.setIfInBounds_toArray, List.set_cons_zero, List.set_cons_succ]
          refine wpAnyH_take (i := 44) (oi := { dst := some 88, op := Op.load 60 (Operand.tmp 87), type := 60, pos := "law.go:70", after := #[{ on := 43, ground := Ground.data }, { on := 38, ground := Ground.guard }], guard := some (38, false) }) (v := ?vs37) rfl (by kernel_rfl) (by kernel_rfl) (by kernel_rfl) (fun _ _ _ h => h) (Or.inl ⟨by rfl, ?hs37⟩) (by assumption) ?rs37
          case hs37 => (intro w hSw; (try dsimp only at hSw); go_simp; try with_reducible rfl)
          try simp only [Act.put, List.setIfInBounds_toArray, List.set_cons_zero, List.set_cons_succ]
          refine wpAnyH_ready (rs := [40]) (by kernel_rfl) (by simp) ?_
          refine AllReadyH.cons (o := { dst := some 84, op := Op.call { callee := Callee.value (Operand.func 40), args := #[Operand.tmp 83], argTypes := #[49] }, type := 60, pos := "law.go:70", after := #[{ on := 39, ground := Ground.data }, { on := 38, ground := Ground.chain }, { on := 38, ground := Ground.guard }], guard := some (38, false) }) rfl (fun K hK => ?_) AllReadyH.nil
          go_simp
          go_at_call 40
          refine (CU.out.gl _ hb35).mono ?_
          rintro e w40 ⟨v40, rfl, hb40, hg40⟩
          refine hK.out _ _ ?_ (fun hHeld => ?_)
          · exact ⟨(HA6.out.below hb40).cells, (HP6.out.below hb40).ref.c0⟩
          clear hK K
          try simp only [Act.put, List.setIfInBounds_toArray, List.set_cons_zero, List.set_cons_succ]
          refine wpAnyH_ready (rs := [45]) (by kernel_rfl) (by simp) ?_
          refine AllReadyH.cons (o := { dst := some 89, op := Op.call { callee := Callee.value (Operand.func 39), args := #[Operand.tmp 84, Operand.tmp 88], argTypes := #[60, 60] }, type := 4, pos := "law.go:70", after := #[{ on := 40, ground := Ground.data }, { on := 44, ground := Ground.data }, { on := 40, ground := Ground.chain }, { on := 38, ground := Ground.guard }], guard := some (38, false) }) rfl (fun K hK => ?_) AllReadyH.nil
          go_simp
          go_at_call 39
          refine (CU.out.sg _ _ hb40 hg40).mono ?_
          rintro e w45 ⟨rfl, hb45⟩
          refine hK.out _ _ ?_ (fun hHeld => ?_)
          · exact ⟨(HA6.out.below hb45).cells, (HP6.out.below hb45).ref.c0⟩
          clear hK K
          try simp only [Act.put, List.setIfInBounds_toArray, List.set_cons_zero, List.set_cons_succ]
          refine wpAnyH_take (i := 46) (oi := { dst := some 90, op := Op.unOp UnOp.not 4 (Operand.tmp 89), type := 4, pos := "law.go:70", after := #[{ on := 45, ground := Ground.data }, { on := 38, ground := Ground.guard }], guard := some (38, false) }) (v := ?vs38) rfl (by kernel_rfl) (by kernel_rfl) (by kernel_rfl) (fun _ _ _ h => h) (Or.inl ⟨by rfl, ?hs38⟩) (by assumption) ?rs38
          case hs38 => (intro w hSw; (try dsimp only at hSw); go_simp; try with_reducible rfl)
          try simp only [Act.put, List.setIfInBounds_toArray, List.set_cons_zero, List.set_cons_succ]
          refine wpAnyH_take (i := 47) (oi := { dst := some 91, op := Op.pick (Operand.tmp 82) (Operand.const (Value.bool true)) (Operand.tmp 90), type := 4, pos := "law.go:70", after := #[{ on := 38, ground := Ground.data }, { on := 46, ground := Ground.data }], guard := none }) (v := ?vs39) rfl (by kernel_rfl) (by kernel_rfl) (by kernel_rfl) (fun _ _ _ h => h) (Or.inl ⟨by rfl, ?hs39⟩) (by assumption) ?rs39
          case hs39 => (intro w hSw; (try dsimp only at hSw); go_simp; try with_reducible rfl)
          try simp only [Act.put, List.setIfInBounds_toArray, List.set_cons_zero, List.set_cons_succ]
          refine wpAnyH_done (by kernel_rfl) ?_ _
          have hfin := Lib.hid (HFB.out _ _ hJ6 hb45)
          have HPF := Lib.hid (HP6.out.below hb45)
          clear hb9 hb13 hb14 hb19 hb31 hb35 hb40 hb45 hi9 hi13 hk13 hg40 CU CX CF HS0
          go_wp2
          go_roundg (l.length - (j + 1))
          case measure => omega
          case rel => exact ⟨j + 1, by omega, by go_num, Lib.hid ⟨M, c6, _, HPF.out⟩, hfin⟩
      · have hjz : ¬ (j : Int) < (l.length : Int) := by omega
        have hfin := Lib.hid (HB0.out.trans (HB.out.mono HB0.out.size))
        go_wp2
        go_ret
        exact ⟨rfl, hfin.out⟩
  · rw [Bool.not_eq_true] at hl
    rw [hl] at CL
    obtain ⟨va, vc, rfl⟩ : ∃ va vc, v = .slice va l.length vc := by
      obtain ⟨a, cap, e, _⟩ := hA
      exact ⟨a, cap, e⟩
    clear hA hok hmax hl
    go_enter Tryz.func5, Tryz.ntmps5
    go_wp2_with fail
    refine (C0.out _).mono ?_
    rintro e w0 ⟨rfl, hb0⟩
    go_wp2_with fail
    refine (CL.out _ hb0).mono ?_
    rintro e w0' ⟨rfl, rfl⟩
    go_wp2
    go_ret
    exact ⟨rfl, hb0⟩
end Go.Proofs.YtnpgmekgmelamaaGreat
