/-
  What is proved: Put of a glob that is no literal; Put of what may not be put.
-/
import Derived.Test.YtnpgmekgmelamaaGreatIxPutA
namespace Go.Proofs.YtnpgmekgmelamaaGreat
open Go.RowKit Go.Shelf Go.Maps

set_option maxHeartbeats 2000000 in
theorem iput_auto {w : World} {x : Nat} {L : List G} {N base : Nat} {col : Nat → Col} {most bg bl bo cl co : Nat} {Fl : List UInt8 → Option Value} {ao : Int → Nat} (H : IdxAt w x L N base col most bg bl bo cl co Fl ao)
    (i : Int) (hi : (Lit.int .i64 i).wf = true) (p : ByteArray) (f : Bool) (hE : putE L i p = 0) (hk : keyG ⟨i, p, f⟩ = none) (hp : p.size ≤ 1000000) (hN : N < 1000000) (HS : SortsN ((cntL f (normP p)).filter fun c => !wildC c).length) :
    Calls Tryz.prog 41 #[.pointer (some ⟨x, 0, none⟩), .int .i64 i, .string p, .bool f] w fun e w' => e = .returned (.int .i64 0) ∧ ∃ col', Idx w' x (insG ⟨i, p, f⟩ L) (N + 1) base col' ∧ Step col w col' w' := by
  have C0 := Lib.hid (imade_any H.obj)
  have C1 := Lib.hid (H.check i hi p)
  rw [hE] at C1
  have C2 : Hid (∀ W, Below w.heap.size w W → Calls Tryz.prog 75 #[.string p] W fun e w' => e = .returned (.string p) ∧ Below w.heap.size w w') := Lib.hid (fun W hW => (clone_any p W hp).mono fun _ _ ⟨h1, h2⟩ => ⟨h1, hW.trans (h2.mono hW.size)⟩)
  have C3 : Hid (∀ W, Calls Tryz.prog 77 #[.agg #[.int .i64 i, .string p, .bool f]] W fun e w' => (∃ s, e = .returned (.tuple #[.string s, .bool false])) ∧ Below W.heap.size W w') := Lib.hid (fun W => by
    refine (lit_any ⟨i, p, f⟩ W hp).mono ?_
    rintro e w' ⟨s, rfl, h2, h3⟩
    rw [hk]
    exact ⟨⟨s, rfl⟩, h3⟩)
  have C4 : Hid (∀ W, Calls Tryz.prog 20 #[.string p, .bool f, .int .i64 (most : Int)] W fun e w' => ∃ b, e = .returned (.tuple #[.pointer (some ⟨b, 0, none⟩), .int .i64 0]) ∧ AutoIn W.heap.size w'.heap.size w' b (normP p) f ∧ Below W.heap.size W w') := Lib.hid (fun W => anew_in p f most W (putE_ok hE).2.2.1 HS H.mst.1 H.mst.2)
  go_enter Tryz.func41, Tryz.ntmps41
  go_wp2_with fail
  refine C0.out.mono ?_
  rintro e w0 ⟨rfl, e0⟩
  rw [e0]
  clear e0 w0
  go_wp2_with fail
  refine C1.out.mono ?_
  rintro e w1 ⟨rfl, hb1⟩
  go_wp2_with fail
  refine (C2.out _ hb1).mono ?_
  rintro e w2 ⟨rfl, hb2⟩
  go_wp2_with fail
  refine (C3.out _).mono ?_
  rintro e w3 ⟨⟨s, rfl⟩, hc3⟩
  have hz2 : (w2.alloc (.cells #[.int .i64 i, .string p, .bool f] 66)).heap.size = w2.heap.size + 1 := World.size_alloc ..
  have hg3 : w3.heap[w2.heap.size]? = some (.cells #[.int .i64 i, .string p, .bool f] 66 (0, 0)) := (hc3.block _ (by omega)).trans (World.alloc_heap_new w2 _)
  have hb3 : Below w.heap.size w w3 := (hb2.alloc hb2.size _).trans (hc3.mono (by have := hb2.size; omega))
  have H3 := H.same hb3.size (fun k hk _ => hb3.block k hk)
  have c1 := H3.obj.c1
  obtain ⟨hi0, hn, hck, hlen⟩ := putE_ok hE
  have hs2 := hb2.size
  have hs3 : w2.heap.size < w3.heap.size := by have := hc3.size; omega
  have hcl0 : col w2.heap.size = .free := by
    by_cases e : col w2.heap.size = .free
    · exact e
    · have := H.bas _ e; omega
  have hbase : base ≤ w3.heap.size := by have := H3.bas x (by rw [H3.cx]; decide); omega
  have hfr : ∀ k, w3.heap.size ≤ k → col k = .free := fun k hk => by
    by_cases e : col k = .free
    · exact e
    · have := H3.bas k e; omega
  have hfin : Hid (∀ w4 b, AutoIn w3.heap.size w4.heap.size w4 b (normP p) f → Below w3.heap.size w3 w4 → w4.cell? ⟨x, 4, none⟩ = some (.map (some bo)) ∧ ∃ w5, (Instr.mapUpdate 107 (.map (some bo)) (.int .i64 i) (.pointer (some ⟨b, 0, none⟩))).run Tryz.prog w4 = .ok () w5 ∧
      w5.cell? ⟨x, 2, none⟩ = some (.map (some bg)) ∧ (w5.cell? ⟨w2.heap.size, 0, none⟩ = some (.int .i64 i) ∧ w5.cell? ⟨w2.heap.size, 1, none⟩ = some (.string p) ∧ w5.cell? ⟨w2.heap.size, 2, none⟩ = some (.bool f)) ∧
        ∃ w6, (Instr.mapUpdate 105 (.map (some bg)) (.int .i64 i) (.agg #[.int .i64 i, .string p, .bool f])).run Tryz.prog w5.drew = .ok () w6 ∧ Hid (∃ col', Idx w6 x (insG ⟨i, p, f⟩ L) (N + 1) base col' ∧ Step col w col' w6)) := Lib.hid (fun w4 b hA hb4 => by
    have H4 := H3.same hb4.size (fun k hk _ => hb4.block k hk)
    have hz4 := hb4.size
    obtain ⟨w5, hr5, co', ao', hM5, hg5⟩ := (H4.mid.litsSkip ⟨i, p, f⟩ hk).othersPut H4.srt hN ⟨i, p, f⟩ hi hn hk hA (fun k h1 _ => hfr k h1) hbase
    have hS5 : Step col w3 (fun k => if w3.heap.size ≤ k ∧ k < w4.heap.size then .auto else col k) w5 := by
      refine ⟨(hb4.mono (Nat.zero_le _)).trans ⟨hg5.os, hg5.tape, hg5.output, hg5.size, fun k hk => absurd hk (Nat.not_lt_zero _)⟩, fun k hk => if_neg (by omega), fun k hk hf => (hg5.block k (by omega) (fun e => ?_)).trans (hb4.block k hk)⟩
      have e2 : k = bo := by injection e
      rw [e2, H3.co'] at hf
      cases hf
    obtain ⟨w6, hr6, hM6, hS6⟩ := hM5.drew.globsPut H3.srt ⟨i, p, f⟩ hi hn hlen
    have hg9 : w5.heap[w2.heap.size]? = some (.cells #[.int .i64 i, .string p, .bool f] 66 (0, 0)) := (hS5.keep _ hs3 hcl0).trans hg3
    refine ⟨H4.obj.c4, w5, hr5, hM5.obj.c2, ⟨by simp [World.cell?, hg9], by simp [World.cell?, hg9], by simp [World.cell?, hg9]⟩, w6, hr6, Lib.hid ⟨_, ⟨most, bg, bl, bo, cl, co', Fl, ao', hM6.idx H3.mst (insG_sorted _ L H3.srt hn) ?_ ?_ (by rw [insG_len]; omega)⟩, (Step.below hb3).trans ((hS5.trans (Step.below (Below.refl _ _).drew)).trans hS6)⟩⟩
    · intro g hg
      rcases insG_mem.1 hg with rfl | hg
      · exact ⟨hi, hi0⟩
      · exact H3.ids g hg
    · intro g hg
      rcases insG_mem.1 hg with rfl | hg
      · exact hck
      · exact H3.chk g hg)
  clear hc3 hb1 hb2 C0 C1 C2 C3 hz2 H H3 hi hE hk hg3 hb3 hs2 hs3 hi0 hn hck hcl0 hlen hp hN HS hfr hbase
  go_wp2_with fail
  refine (C4.out _).mono ?_
  rintro e w4 ⟨b, rfl, hA, hb4⟩
  obtain ⟨k1, w5, hr5, k2, ⟨k3, k4, k5⟩, w6, hr6, hend⟩ := hfin.out w4 b hA hb4
  clear hA hb4 hfin C4
  go_wp2
  go_region
  go_wp2
  go_ret
  exact ⟨rfl, hend.out⟩

theorem iput_bad {w : World} {x : Nat} {L : List G} {N base : Nat} {col : Nat → Col} {most bg bl bo cl co : Nat} {Fl : List UInt8 → Option Value} {ao : Int → Nat} (H : IdxAt w x L N base col most bg bl bo cl co Fl ao)
    (i : Int) (hi : (Lit.int .i64 i).wf = true) (p : ByteArray) (f : Bool) (hE : putE L i p ≠ 0) :
    Calls Tryz.prog 41 #[.pointer (some ⟨x, 0, none⟩), .int .i64 i, .string p, .bool f] w fun e w' => e = .returned (.int .i64 (putE L i p)) ∧ Below w.heap.size w w' := by
  have C0 := Lib.hid (imade_any H.obj)
  have C1 := Lib.hid (H.check i hi p)
  obtain ⟨E, hEE⟩ : ∃ E, putE L i p = E := ⟨_, rfl⟩
  rw [hEE] at C1 hE
  rw [hEE]
  clear hEE H hi
  go_enter Tryz.func41, Tryz.ntmps41
  go_wp2_with fail
  refine C0.out.mono ?_
  rintro e w0 ⟨rfl, e0⟩
  rw [e0]
  clear e0 w0
  go_wp2_with fail
  refine C1.out.mono ?_
  rintro e w1 ⟨rfl, hb1⟩
  go_wp2
  go_ret
  exact ⟨rfl, hb1⟩

/-- What Put returns, and what is there then. -/
def putL (L : List G) (i : Int) (p : ByteArray) (f : Bool) : List G := if putE L i p = 0 then insG ⟨i, p, f⟩ L else L
theorem iput_any {w : World} {x : Nat} {L : List G} {N base : Nat} {col : Nat → Col} (H : Idx w x L N base col) (i : Int) (hi : (Lit.int .i64 i).wf = true) (p : ByteArray) (f : Bool) (hp : p.size ≤ 1000000) (hN : N < 1000000)
    (HS : keyG ⟨i, p, f⟩ = none → checkN p.size = 0 → SortsN ((cntL f (normP p)).filter fun c => !wildC c).length) :
    Calls Tryz.prog 41 #[.pointer (some ⟨x, 0, none⟩), .int .i64 i, .string p, .bool f] w fun e w' => e = .returned (.int .i64 (putE L i p)) ∧ ∃ col', Idx w' x (putL L i p f) (N + 1) base col' ∧ Step col w col' w' := by
  obtain ⟨most, bg, bl, bo, cl, co, Fl, ao, H⟩ := H
  unfold putL
  by_cases hE : putE L i p = 0
  · rw [if_pos hE, hE]
    cases hk : keyG ⟨i, p, f⟩ with
    | none => exact iput_auto H i hi p f hE hk hp hN (HS hk (putE_ok hE).2.2.1)
    | some k => exact iput_lit H i hi p f hE k hk hp hN
  · rw [if_neg hE]
    refine (iput_bad H i hi p f hE).mono ?_
    rintro e w' ⟨rfl, hb⟩
    exact ⟨rfl, col, ⟨most, bg, bl, bo, cl, co, Fl, ao, (H.mid.more (Nat.le_succ N)).idx H.mst H.srt H.ids H.chk H.len |>.same hb.size (fun k hk _ => hb.block k hk)⟩, Step.below hb⟩
end Go.Proofs.YtnpgmekgmelamaaGreat
