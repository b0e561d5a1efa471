/-
  What is proved: outlawlaw10.IndexDrop returns true at any acts, number, glob, fold and string. No conditions. (The walk; the frame lies in XIxLawDS.)
-/
import Derived.Test.YtnpgmekgmelamaaGreatIxDo
namespace Go.Proofs.YtnpgmekgmelamaaGreat
open Go.RowKit Go.Shelf Go.Maps

/-- A value whose block is none of the index's. -/
def Apart (col : Nat → Col) (W : World) (v : Value) : Prop := ∀ k, v.ownBlock = some k → k < W.heap.size ∧ col k = .free
theorem Apart.step {col col' : Nat → Col} {W W' : World} {v : Value} (h : Apart col W v) (hs : Step col W col' W') : Apart col' W' v := fun k hk => by
  obtain ⟨h1, h2⟩ := h k hk
  exact ⟨by have := hs.os.size; omega, by rw [hs.old k h1]; exact h2⟩
theorem Apart.below {col : Nat → Col} {W W' : World} {v : Value} (h : Apart col W v) (hb : Below W.heap.size W W') : Apart col W' v := fun k hk => by
  obtain ⟨h1, h2⟩ := h k hk
  exact ⟨by have := hb.size; omega, h2⟩
theorem GlobsR.step {col col' : Nat → Col} {W W' : World} {v : Value} {L : List G} (h : GlobsR W v L) (ha : Apart col W v) (hs : Step col W col' W') : GlobsR W' v L := by
  obtain ⟨a, cap, rfl, h⟩ := h
  refine ⟨a, cap, rfl, fun j x hx => ?_⟩
  obtain ⟨b, off, rfl, h1, h2⟩ := h j x hx
  refine ⟨b, off, rfl, by have := hs.os.size; omega, fun i hi => ?_⟩
  rw [World.cell?_of_block (w := W) (hs.keep b h1 (ha b rfl).2)]
  exact h2 i hi
theorem Ints.step {col col' : Nat → Col} {W W' : World} {v : Value} {zs : List Int} (h : Ints W v zs) (ha : Apart col W v) (hs : Step col W col' W') : Ints W' v zs := by
  rcases h with h | ⟨b, cap, h1, h2⟩ | ⟨b, off, cap, rfl, h1, h2⟩
  · exact .inl h
  · exact .inr (.inl ⟨b, cap, h1, h2⟩)
  · refine .inr (.inr ⟨b, off, cap, rfl, by have := hs.os.size; omega, fun j hj => ?_⟩)
    rw [World.cell?_of_block (w := W) (hs.keep b h1 (ha b rfl).2)]
    exact h2 j hj
theorem apart_new {w W : World} {x : Nat} {L : List G} {N base B : Nat} {col : Nat → Col} {e : TypeId} {s n : Nat} {v : Value} {xs : List Value} (H : Idx w x L N base col) (hB : w.heap.size ≤ B) (h : W.ownsRow B e s v n xs) : Apart col W v := fun k hk => by
  obtain ⟨h1, h2⟩ := h.lt k hk
  exact ⟨h2, H.free (.inr (by omega))⟩

theorem Idx.ids {w : World} {x : Nat} {L : List G} {N base : Nat} {col : Nat → Col} (H : Idx w x L N base col) : ∀ g, g ∈ L → 0 ≤ g.id := by
  obtain ⟨most, bg, bl, bo, cl, co, Fl, ao, H⟩ := H
  exact fun g hg => (H.ids g hg).2
theorem Idx.srt {w : World} {x : Nat} {L : List G} {N base : Nat} {col : Nat → Col} (H : Idx w x L N base col) : Sorted L := by
  obtain ⟨most, bg, bl, bo, cl, co, Fl, ao, H⟩ := H
  exact H.srt
theorem Idx.len {w : World} {x : Nat} {L : List G} {N base : Nat} {col : Nat → Col} (H : Idx w x L N base col) : L.length ≤ 200 := by
  obtain ⟨most, bg, bl, bo, cl, co, Fl, ao, H⟩ := H
  exact H.len
theorem putE_has {L : List G} {i : Int} {p : ByteArray} (hi : ∀ g, g ∈ L → 0 ≤ g.id) (hE : putE L i p ≠ 0) : hasG L i = true ∧ putE L i p = 8 ∨ hasG L i = false ∧ (putE L i p == 8) = false := by
  cases h : hasG L i with
  | true =>
    left
    obtain ⟨g, hg, rfl⟩ := hasG_iff.1 h
    refine ⟨rfl, ?_⟩
    unfold putE
    rw [if_neg (by have := hi g hg; omega), if_pos h]
  | false =>
    right
    refine ⟨rfl, ?_⟩
    unfold putE
    rw [h]
    split
    · rfl
    · rw [if_neg (by decide)]
      split
      · unfold checkN
        split
        · rfl
        · split <;> rfl
      · split <;> rfl
theorem len_ins (g : G) (L : List G) : hasG (insG g L) g.id = true := hasG_iff.2 ⟨g, insG_mem.2 (.inl rfl), rfl⟩

set_option maxRecDepth 100000 in
set_option maxHeartbeats 8000000 in
theorem idropLaw_any {w : World} {v : Value} {l : List ActA} (hL : ActsL w v l) (id : Int) (hid : (Lit.int .i64 id).wf = true) (p : ByteArray) (f : Bool) (t : ByteArray) :
    Calls Tryz.prog 7 #[v, .int .i64 id, .string p, .bool f, .string t] w fun e w' => e = .returned (.bool true) ∧ Below w.heap.size w w' := by
  obtain ⟨hA, hok, hmax⟩ := hL
  have C0 := Lib.hid (fun w => ilives_any w)
  have CL : Hid (∀ W, Below w.heap.size w W → Calls Tryz.prog 27 #[v] W fun e w' => e = .returned (.bool (lightL l)) ∧ w' = W) := Lib.hid (fun W hW => light_any (hA.below hW) (by unfold maxLen at hmax; omega))
  by_cases hl : lightL l = true
  · rw [hl] at CL
    by_cases hp : p.size ≤ 300
    · have hpz : ¬ (300 : Int) < (p.size : Int) := by omega
      by_cases ht : t.size ≤ 100
      · have htz : ¬ (100 : Int) < (t.size : Int) := by omega
        obtain ⟨h60, hsz⟩ := lightL_all hl
        have CN := Lib.hid (fun w => inew_any 20 w)
        have HID := Lib.hid hid
        have HSZ := Lib.hid hsz
        have HOK := Lib.hid hok
        have HPT : Hid (p.size ≤ 1000000 ∧ t.size ≤ 1000000) := Lib.hid (by omega)
        obtain ⟨va, vc, rfl⟩ : ∃ va vc, v = .slice va l.length vc := by
          obtain ⟨a, cap, e, _⟩ := hA
          exact ⟨a, cap, e⟩
        have HCELL := Lib.hid hA.cells.2
        clear hA hok hmax hl hp ht hsz hid
        go_enter Tryz.func7, Tryz.ntmps7
        go_wp2_with fail
        refine (C0.out _).mono ?_
        rintro e w0 ⟨rfl, hb0⟩
        go_wp2_with fail
        refine (CL.out _ hb0).mono ?_
        rintro e w0' ⟨rfl, rfl⟩
        go_wp2_with fail
        refine (CN.out _).mono ?_
        rintro e w1 ⟨x, col1, rfl, hI1, hb1⟩
        have HB0 := Lib.hid hb0
        have HI1 := Lib.hid hI1
        have HB1 := Lib.hid hb1
        clear hb0 hI1 hb1 C0 CL CN
        go_wp2_with fail
        go_loopg [12] l.length (fun gk s12 wr => ∃ j : Nat, j + gk = l.length ∧ s12 = .int .i64 j ∧ Hid (∃ L col, Idx wr x L j w0'.heap.size col) ∧ Hid (Below w0'.heap.size w0' wr))
        case atStart => exact ⟨0, by omega, rfl, Lib.hid ⟨[], col1, HI1.out⟩, HB1⟩
        case round =>
          clear HI1 HB1
          obtain ⟨j, hjg, rfl, HI, HB⟩ := hrel
          obtain ⟨L, col, hI⟩ := HI.out
          clear HI
          by_cases hj : j < l.length
          · have hjz : (j : Int) < (l.length : Int) := by omega
            obtain ⟨b, off, ea, hc⟩ := HCELL.out j hj
            obtain ⟨c0, c1, c2, c3, c4⟩ := hc wr (HB0.out.trans (HB.out.mono HB0.out.size))
            have C := Lib.hid (do_any hI l[j] (HOK.out j _ (List.getElem?_eq_getElem hj)) (by have := (HSZ.out j _ (List.getElem?_eq_getElem hj)).1; omega) (by omega))
            have HFR : Hid (∀ {col' : Nat → Col} {w'}, Step col wr col' w' → Below w0'.heap.size w0' w') := Lib.hid (fun hS => HB.out.trans (hS.from HB.out.size (fun k hk => hI.free (.inl hk))))
            obtain ⟨⟨k, i, q, g, u⟩, hx⟩ : ∃ y, l[j] = y := ⟨_, rfl⟩
            rw [hx] at c0 c1 c2 c3 c4 C
            unfold actV at C
            dsimp only at c0 c1 c2 c3 c4 C
            obtain ⟨ee, hee⟩ : ∃ ee, doE L ⟨k, i, q, g, u⟩ = ee := ⟨_, rfl⟩
            rw [hee] at C
            subst ea
            clear hx hc hI hee
            go_wp2_with fail
            refine C.out.mono ?_
            rintro e w2 ⟨rfl, col2, hI2, hS2⟩
            have HI2 := Lib.hid hI2
            have HB2 := Lib.hid (HFR.out hS2)
            clear hI2 hS2 C HFR
            go_wp2
            go_roundg (l.length - (j + 1))
            case measure => omega
            case rel => exact ⟨j + 1, by omega, by go_num, Lib.hid ⟨_, col2, HI2.out⟩, HB2⟩
          · have hjz : ¬ (j : Int) < (l.length : Int) := by omega
            have hj60 : j ≤ 60 := by omega
            clear HCELL HSZ HOK
            have HI := Lib.hid hI
            have C1 := Lib.hid (iglobs_any hI)
            clear hI
            go_wp2_with fail
            refine C1.out.mono ?_
            rintro e w2 ⟨v1, rfl, ho1, hb2⟩
            have hI2 := HI.out.below hb2
            have C2 := Lib.hid (imatch_any hI2 (by omega) t HPT.out.2)
            have GR2 := Lib.hid ho1.reads
            have AP2 := Lib.hid (apart_new HI.out (Nat.le_refl _) ho1)
            have HI2 := Lib.hid hI2
            have HB2 := Lib.hid (HB.out.trans (hb2.mono HB.out.size))
            obtain ⟨a1, cap1, hv1, _⟩ := ho1.reads
            subst hv1
            clear ho1 hb2 hI2 C1
            go_wp2_with fail
            refine C2.out.mono ?_
            rintro e w3 ⟨v2, ids, rfl, hb3, hrow3, hids⟩
            have hI3 := HI2.out.below hb3
            have C3 := Lib.hid (put_all hI3 id HID.out p f HPT.out.1 (by omega))
            have GR3 := Lib.hid (GR2.out.below hb3)
            have AP3 := Lib.hid (AP2.out.below hb3)
            have IN3 := Lib.hid (Ints.of_own hrow3)
            have AI3 := Lib.hid (apart_new HI2.out (Nat.le_refl _) hrow3)
            have HB3 := Lib.hid (HB2.out.trans (hb3.mono HB2.out.size))
            have HF3 := Lib.hid (fun k (hk : k < w0'.heap.size) => hI3.free (.inl hk))
            have HIDS := Lib.hid hids
            obtain ⟨a2, cap2, hv2, _⟩ := IN3.out.reads
            subst hv2
            clear hb3 hrow3 hids hI3 C2 GR2 AP2
            by_cases hE : putE L id p = 0
            · have hput : putL L id p f = insG ⟨id, p, f⟩ L := if_pos hE
              obtain ⟨hi0, hno, hck, hlen⟩ := putE_ok hE
              rw [hE, hput] at C3
              clear hput hE hi0 hck
              go_wp2_with fail
              refine C3.out.mono ?_
              rintro e w4 ⟨rfl, col4, hI4, hS4⟩
              have GR4 := Lib.hid (GR3.out.step AP3.out hS4)
              have AP4 := Lib.hid (AP3.out.step hS4)
              have IN4 := Lib.hid (IN3.out.step AI3.out hS4)
              have AI4 := Lib.hid (AI3.out.step hS4)
              have HB4 := Lib.hid (HB3.out.trans (hS4.from HB3.out.size HF3.out))
              have C4 : Hid (Calls Tryz.prog 37 #[.pointer (some ⟨x, 0, none⟩), .int .i64 id] w4 fun e w' => e = .returned (.bool true) ∧ Below w4.heap.size w4 w') := Lib.hid (by
                have := has_all hI4 id HID.out
                rwa [len_ins ⟨id, p, f⟩ L] at this)
              have HI4 := Lib.hid hI4
              have HNO := Lib.hid hno
              have HLEN := Lib.hid hlen
              clear hI4 hS4 C3 GR3 AP3 IN3 AI3 hno hlen
              go_wp2_with fail
              refine C4.out.mono ?_
              rintro e w5 ⟨rfl, hb5⟩
              have hI5 := HI4.out.below hb5
              have C5 : Hid (Calls Tryz.prog 36 #[.pointer (some ⟨x, 0, none⟩)] w5 fun e w' => e = .returned (.int .i64 ((L.length : Int) + 1)) ∧ w' = w5) := Lib.hid (by
                have := len_all hI5
                rwa [insG_len, show ((L.length + 1 : Nat) : Int) = (L.length : Int) + 1 by omega] at this)
              have C6 : Hid (Calls Tryz.prog 42 #[.pointer (some ⟨x, 0, none⟩), .int .i64 id] w5 fun e w' => e = .returned (.int .i64 0) ∧ ∃ col', Idx w' x L (j + 1 + 1) w0'.heap.size col' ∧ Step col4 w5 col' w') := Lib.hid (by
                have := idrop_any hI5 id HID.out (by omega)
                rwa [show dropE (insG ⟨id, p, f⟩ L) id = 0 by unfold dropE; rw [len_ins ⟨id, p, f⟩ L]; rfl, show delG id (insG ⟨id, p, f⟩ L) = L from ins_del HI.out.srt ⟨id, p, f⟩ HNO.out] at this)
              have hwr : IntKind.i64.wrap ((L.length : Int) + 1) = (L.length : Int) + 1 := by rw [IntKind.wrap_i64]; have := HLEN.out; omega
              have GR5 := Lib.hid (GR4.out.below hb5)
              have AP5 := Lib.hid (AP4.out.below hb5)
              have IN5 := Lib.hid (IN4.out.below hb5)
              have AI5 := Lib.hid (AI4.out.below hb5)
              have HB5 := Lib.hid (HB4.out.trans (hb5.mono HB4.out.size))
              have HF5 := Lib.hid (fun k (hk : k < w0'.heap.size) => hI5.free (.inl hk))
              clear hb5 hI5 C4 GR4 AP4 IN4 AI4 HI4
              go_wp2_with fail
              refine C5.out.mono ?_
              rintro e w6 ⟨rfl, e6⟩
              rw [e6]
              clear e6 w6 C5
              go_wp2_with fail
              refine C6.out.mono ?_
              rintro e w7 ⟨rfl, col7, hI7, hS7⟩
              have GR7 := Lib.hid (GR5.out.step AP5.out hS7)
              have IN7 := Lib.hid (IN5.out.step AI5.out hS7)
              have HB7 := Lib.hid (HB5.out.trans (hS7.from HB5.out.size HF5.out))
              have HI7 := Lib.hid hI7
              clear hI7 hS7 C6 GR5 AP5 IN5 AI5 hwr
              have C7 := Lib.hid (iglobs_any HI7.out)
              go_wp2_with fail
              refine C7.out.mono ?_
              rintro e w8 ⟨v8, rfl, ho8, hb8⟩
              have C8 : Hid (Calls Tryz.prog 39 #[v8, .slice a1 L.length cap1] w8 fun e w' => e = .returned (.bool true) ∧ Below w8.heap.size w8 w') := Lib.hid (by
                have := sameG_any ho8.reads (GR7.out.below hb8) (by have := HI.out.len; omega)
                rwa [decide_eq_true rfl] at this)
              have HI8 := Lib.hid (HI7.out.below hb8)
              have IN8 := Lib.hid (IN7.out.below hb8)
              have HB8 := Lib.hid (HB7.out.trans (hb8.mono HB7.out.size))
              clear ho8 hb8 C7
              go_wp2_with fail
              refine C8.out.mono ?_
              rintro e w9 ⟨rfl, hb9⟩
              have C9 := Lib.hid (imatch_any (HI8.out.below hb9) (by omega) t HPT.out.2)
              have IN9 := Lib.hid (IN8.out.below hb9)
              have HB9 := Lib.hid (HB8.out.trans (hb9.mono HB8.out.size))
              clear hb9 C8
              go_wp2_with fail
              refine C9.out.mono ?_
              rintro e w10 ⟨v10, ids', rfl, hb10, hrow10, hids'⟩
              have C10 : Hid (Calls Tryz.prog 33 #[v10, .slice a2 ids.length cap2] w10 fun e w' => e = .returned (.bool true) ∧ Below w10.heap.size w10 w') := Lib.hid (by
                have := same_any (Ints.of_own hrow10) (IN9.out.below hb10) (by rw [hids', List.length_map]; have := List.length_filter_le (mG t.data.toList) L; have := HI.out.len; omega)
                rwa [show (ids' == ids) = true by rw [hids', HIDS.out]; simp] at this)
              have HB10 := Lib.hid (HB9.out.trans (hb10.mono HB9.out.size))
              clear hb10 hrow10 hids' C9
              go_wp2_with fail
              refine C10.out.mono ?_
              rintro e w11 ⟨rfl, hb11⟩
              have HB11 := Lib.hid (HB10.out.trans (hb11.mono HB10.out.size))
              clear hb11 C10
              have hfin := Lib.hid (HB0.out.trans (HB11.out.mono HB0.out.size))
              go_wp2
              go_ret
              exact ⟨rfl, hfin.out⟩
            · have hput : putL L id p f = L := if_neg hE
              have HE := Lib.hid (putE_has HI.out.ids hE)
              rw [hput] at C3
              obtain ⟨ep, hep⟩ : ∃ ep, putE L id p = ep := ⟨_, rfl⟩
              rw [hep] at C3 HE hE
              have hez : (ep == 0) = false := by simpa using hE
              clear hput hep hE
              go_wp2_with fail
              refine C3.out.mono ?_
              rintro e w4 ⟨rfl, col4, hI4, hS4⟩
              have GR7 := Lib.hid (GR3.out.step AP3.out hS4)
              have IN7 := Lib.hid (IN3.out.step AI3.out hS4)
              have HB7 := Lib.hid (HB3.out.trans (hS4.from HB3.out.size HF3.out))
              have HI7 := Lib.hid hI4
              clear hI4 hS4 C3 GR3 AP3 IN3 AI3
              have C7 := Lib.hid (iglobs_any HI7.out)
              go_wp2_with fail
              refine C7.out.mono ?_
              rintro e w8 ⟨v8, rfl, ho8, hb8⟩
              have C8 : Hid (Calls Tryz.prog 39 #[v8, .slice a1 L.length cap1] w8 fun e w' => e = .returned (.bool true) ∧ Below w8.heap.size w8 w') := Lib.hid (by
                have := sameG_any ho8.reads (GR7.out.below hb8) (by have := HI.out.len; omega)
                rwa [decide_eq_true rfl] at this)
              have HI8 := Lib.hid (HI7.out.below hb8)
              have IN8 := Lib.hid (IN7.out.below hb8)
              have HB8 := Lib.hid (HB7.out.trans (hb8.mono HB7.out.size))
              clear ho8 hb8 C7
              go_wp2_with fail
              refine C8.out.mono ?_
              rintro e w9 ⟨rfl, hb9⟩
              have C9 := Lib.hid (imatch_any (HI8.out.below hb9) (by omega) t HPT.out.2)
              have IN9 := Lib.hid (IN8.out.below hb9)
              have HI9 := Lib.hid (HI8.out.below hb9)
              have HB9 := Lib.hid (HB8.out.trans (hb9.mono HB8.out.size))
              clear hb9 C8
              go_wp2_with fail
              refine C9.out.mono ?_
              rintro e w10 ⟨v10, ids', rfl, hb10, hrow10, hids'⟩
              have C10 : Hid (Calls Tryz.prog 33 #[v10, .slice a2 ids.length cap2] w10 fun e w' => e = .returned (.bool true) ∧ Below w10.heap.size w10 w') := Lib.hid (by
                have := same_any (Ints.of_own hrow10) (IN9.out.below hb10) (by rw [hids', List.length_map]; have := List.length_filter_le (mG t.data.toList) L; have := HI.out.len; omega)
                rwa [show (ids' == ids) = true by rw [hids', HIDS.out]; simp] at this)
              have HI10 := Lib.hid (HI9.out.below hb10)
              have HB10 := Lib.hid (HB9.out.trans (hb10.mono HB9.out.size))
              clear hb10 hrow10 hids' C9
              go_wp2_with fail
              refine C10.out.mono ?_
              rintro e w11 ⟨rfl, hb11⟩
              have HI11 := Lib.hid (HI10.out.below hb11)
              have HB11 := Lib.hid (HB10.out.trans (hb11.mono HB10.out.size))
              clear hb11 C10
              rcases HE.out with ⟨h1, rfl⟩ | ⟨h1, h2⟩
              · have CH : Hid (Calls Tryz.prog 37 #[.pointer (some ⟨x, 0, none⟩), .int .i64 id] w11 fun e w' => e = .returned (.bool true) ∧ Below w11.heap.size w11 w') := Lib.hid (by
                  have := has_all HI11.out id HID.out
                  rwa [h1] at this)
                clear h1 HE
                go_wp2_with fail
                refine CH.out.mono ?_
                rintro e w12 ⟨rfl, hb12⟩
                have hfin := Lib.hid (HB0.out.trans ((HB11.out.trans (hb12.mono HB11.out.size)).mono HB0.out.size))
                clear hb12
                go_wp2
                go_ret
                exact ⟨rfl, hfin.out⟩
              · have CH : Hid (Calls Tryz.prog 37 #[.pointer (some ⟨x, 0, none⟩), .int .i64 id] w11 fun e w' => e = .returned (.bool false) ∧ Below w11.heap.size w11 w') := Lib.hid (by
                  have := has_all HI11.out id HID.out
                  rwa [h1] at this)
                clear h1 HE
                go_wp2_with fail
                refine CH.out.mono ?_
                rintro e w12 ⟨rfl, hb12⟩
                have hfin := Lib.hid (HB0.out.trans ((HB11.out.trans (hb12.mono HB11.out.size)).mono HB0.out.size))
                clear hb12
                go_wp2
                go_ret
                exact ⟨rfl, hfin.out⟩
      · have htz : (100 : Int) < (t.size : Int) := by omega
        obtain ⟨va, vc, rfl⟩ : ∃ va vc, v = .slice va l.length vc := by
          obtain ⟨a, cap, e, _⟩ := hA
          exact ⟨a, cap, e⟩
        clear hA hok hmax hl hp ht hid
        go_enter Tryz.func7, Tryz.ntmps7
        go_wp2_with fail
        refine (C0.out _).mono ?_
        rintro e w0 ⟨rfl, hb0⟩
        go_wp2_with fail
        refine (CL.out _ hb0).mono ?_
        rintro e w0' ⟨rfl, rfl⟩
        go_wp2
        go_ret
        exact ⟨rfl, hb0⟩
    · have hpz : (300 : Int) < (p.size : Int) := by omega
      obtain ⟨va, vc, rfl⟩ : ∃ va vc, v = .slice va l.length vc := by
        obtain ⟨a, cap, e, _⟩ := hA
        exact ⟨a, cap, e⟩
      clear hA hok hmax hl hp hid
      go_enter Tryz.func7, Tryz.ntmps7
      go_wp2_with fail
      refine (C0.out _).mono ?_
      rintro e w0 ⟨rfl, hb0⟩
      go_wp2_with fail
      refine (CL.out _ hb0).mono ?_
      rintro e w0' ⟨rfl, rfl⟩
      go_wp2
      go_ret
      exact ⟨rfl, hb0⟩
  · rw [Bool.not_eq_true] at hl
    rw [hl] at CL
    obtain ⟨va, vc, rfl⟩ : ∃ va vc, v = .slice va l.length vc := by
      obtain ⟨a, cap, e, _⟩ := hA
      exact ⟨a, cap, e⟩
    clear hA hok hmax hl hid
    go_enter Tryz.func7, Tryz.ntmps7
    go_wp2_with fail
    refine (C0.out _).mono ?_
    rintro e w0 ⟨rfl, hb0⟩
    go_wp2_with fail
    refine (CL.out _ hb0).mono ?_
    rintro e w0' ⟨rfl, rfl⟩
    go_wp2
    go_ret
    exact ⟨rfl, hb0⟩
end Go.Proofs.YtnpgmekgmelamaaGreat
