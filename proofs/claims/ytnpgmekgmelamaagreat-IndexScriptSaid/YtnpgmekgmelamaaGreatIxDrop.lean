/-
  What is proved: what Drop returns, and what is there then.
-/
import Derived.Test.YtnpgmekgmelamaaGreatIxDropA
namespace Go.Proofs.YtnpgmekgmelamaaGreat
open Go.RowKit Go.Shelf Go.Maps

theorem idrop_none {w : World} {x : Nat} {L : List G} {N base : Nat} {col : Nat → Col} {most bg bl bo cl co : Nat} {Fl : List UInt8 → Option Value} {ao : Int → Nat} (H : IdxAt w x L N base col most bg bl bo cl co Fl ao) (i : Int) (hi : (Lit.int .i64 i).wf = true) (hn : hasG L i = false) :
    Calls Tryz.prog 42 #[.pointer (some ⟨x, 0, none⟩), .int .i64 i] w fun e w' => e = .returned (.int .i64 12) ∧ Below w.heap.size w w' := by
  have C0 := Lib.hid (imade_any H.obj)
  have c2 := H.obj.c2
  have hL0 := H.globs.look2 (t := 105) lawI Tryz.underlying105 (zero_glob w) (keyI hi)
  rw [globF_is, hn, show (globF L (.int .i64 i)).getD zeroG = zeroG by show ((atI L i).map globV).getD zeroG = zeroG; rw [atI_none hn]; rfl] at hL0
  unfold zeroG at hL0
  clear H hn hi
  go_enter Tryz.func42, Tryz.ntmps42
  go_wp2_with (go_at_call 68; refine C0.out.mono ?_; rintro e w' ⟨rfl, rfl⟩)
  go_ret
  exact ⟨rfl, by first | exact Below.refl _ _ | exact (Below.refl _ _).alloc (Nat.le_refl _) _⟩

set_option maxRecDepth 100000 in
set_option maxHeartbeats 1000000 in
theorem idrop_has {w : World} {x : Nat} {L : List G} {N base : Nat} {col : Nat → Col} {most bg bl bo cl co : Nat} {Fl : List UInt8 → Option Value} {ao : Int → Nat} (H : IdxAt w x L N base col most bg bl bo cl co Fl ao) (g : G) (hm : g ∈ L) (hN : N < 1000000) :
    Calls Tryz.prog 42 #[.pointer (some ⟨x, 0, none⟩), .int .i64 g.id] w fun e w' => e = .returned (.int .i64 0) ∧ ∃ col', Idx w' x (delG g.id L) (N + 1) base col' ∧ Step col w col' w' := by
  obtain ⟨hi, hi0⟩ := H.ids g hm
  have hp : g.p.size ≤ 1000000 := by have := (check_pos (H.chk g hm)).2; omega
  have C0 := Lib.hid (imade_any H.obj)
  have c2 := H.obj.c2
  have hL0 := H.globs.look2 (t := 105) lawI Tryz.underlying105 (zero_glob w) (keyI hi)
  rw [globF_is, hasG_iff.2 ⟨g, hm, rfl⟩, show (globF L (.int .i64 g.id)).getD zeroG = globV g by show ((atI L g.id).map globV).getD zeroG = globV g; rw [atI_some H.srt hm]; rfl] at hL0
  have C1 := Lib.hid fun W => lit_any g W hp
  have fin : ∀ {W W' : World} {cl' co' : Nat} {Fl'}, Step col w col W → Mid W x L (delG g.id L) (delG g.id L) (N + 1) base col most bg bl bo cl' co' Fl' ao → ∃ w6, (Builtin.delete_ #[105, 3] 0 #[.map (some bg), .int .i64 g.id]).run Tryz.prog W = .ok (.tuple #[]) w6 ∧ Hid (∃ col', Idx w6 x (delG g.id L) (N + 1) base col' ∧ Step col w col' w6) := fun {W W' cl' co' Fl'} hS hM => by
    obtain ⟨w6, hr, hM6, hS6⟩ := hM.globsDel H.srt g hi hm 0
    refine ⟨w6, hr, Lib.hid ⟨col, ⟨most, bg, bl, bo, cl', co', Fl', ao, hM6.idx H.mst (delG_sorted _ H.srt) (fun g' hg' => H.ids g' (delG_mem.1 hg').1) (fun g' hg' => H.chk g' (delG_mem.1 hg').1) ?_⟩, hS.trans hS6⟩⟩
    have := delG_len H.srt hm
    have := H.len
    omega
  cases hk : keyG g with
  | none =>
    rw [hk] at C1
    have hfin : Hid (∀ W, Below w.heap.size w W → W.cell? ⟨x, 4, none⟩ = some (.map (some bo)) ∧ ∃ w5, (Builtin.delete_ #[107, 3] 0 #[.map (some bo), .int .i64 g.id]).run Tryz.prog W = .ok (.tuple #[]) w5 ∧ w5.cell? ⟨x, 2, none⟩ = some (.map (some bg)) ∧
        ∃ w6, (Builtin.delete_ #[105, 3] 0 #[.map (some bg), .int .i64 g.id]).run Tryz.prog w5 = .ok (.tuple #[]) w6 ∧ Hid (∃ col', Idx w6 x (delG g.id L) (N + 1) base col' ∧ Step col w col' w6)) := Lib.hid fun W hW => by
      have H1 := H.same hW.size (fun k hk _ => hW.block k hk)
      obtain ⟨w5, hr5, co', hM5, hS5⟩ := (H1.mid.litsOut H.srt g hm hk).othersDel H.srt g.id hi 0
      obtain ⟨w6, hr6, hend⟩ := fin (W' := w5) ((Step.below hW).trans hS5) (hM5.more (Nat.le_succ N))
      exact ⟨H1.obj.c4, w5, hr5, hM5.obj.c2, w6, hr6, hend⟩
    obtain ⟨i, hii⟩ : ∃ i, g.id = i := ⟨_, rfl⟩
    obtain ⟨Ld, hLd⟩ : ∃ Ld, delG g.id L = Ld := ⟨_, rfl⟩
    unfold globV at C1 hL0
    rw [hLd] at hfin
    rw [hLd]
    rw [hii] at C1 hL0 hfin
    rw [hii]
    clear fin H hLd hk hm hi hi0 hp hii hN
    go_enter Tryz.func42, Tryz.ntmps42
    go_wp2_with fail
    refine C0.out.mono ?_
    rintro e w0 ⟨rfl, e0⟩
    rw [e0]
    clear e0 w0
    go_wp2_with fail
    refine (C1.out _).mono ?_
    rintro e w1 ⟨s, rfl, _, hb1⟩
    have hb : Below w.heap.size w w1 := ((Below.refl _ w).alloc (Nat.le_refl _) _).trans (hb1.mono (by rw [World.size_alloc]; exact Nat.le_succ _))
    obtain ⟨k1, w5, hr5, k2, w6, hr6, hend⟩ := hfin.out w1 hb
    clear hfin hb hb1 C0 C1
    go_wp2_with (at_delete; first | refine delete_eq rfl _ _ 107 3 rfl _ _ rfl rfl hr5 ?_ | refine delete_eq rfl _ _ 105 3 rfl _ _ rfl rfl hr6 ?_)
    go_ret
    exact ⟨rfl, hend.out⟩
  | some k =>
    rw [hk] at C1
    have hfin : Hid (∀ W, Below w.heap.size w W → Calls Tryz.prog 78 #[.pointer (some ⟨x, 0, none⟩), .string (str k), .int .i64 g.id] W fun e w5 => e = .returned (.tuple #[]) ∧ w5.cell? ⟨x, 2, none⟩ = some (.map (some bg)) ∧
        ∃ w6, (Builtin.delete_ #[105, 3] 0 #[.map (some bg), .int .i64 g.id]).run Tryz.prog w5 = .ok (.tuple #[]) w6 ∧ Hid (∃ col', Idx w6 x (delG g.id L) (N + 1) base col' ∧ Step col w col' w6)) := Lib.hid fun W hW => by
      have H1 := H.same hW.size (fun k hk _ => hW.block k hk)
      refine (idropLit H1 g hm k hk hN).mono ?_
      rintro e w5 ⟨rfl, cl', Fl', hM5, hS5⟩
      obtain ⟨w6, hr6, hend⟩ := fin (W' := w5) ((Step.below hW).trans hS5) (hM5.othersOut H.srt g hm hk)
      exact ⟨rfl, hM5.obj.c2, w6, hr6, hend⟩
    obtain ⟨i, hii⟩ : ∃ i, g.id = i := ⟨_, rfl⟩
    obtain ⟨Ld, hLd⟩ : ∃ Ld, delG g.id L = Ld := ⟨_, rfl⟩
    unfold globV at C1 hL0
    rw [hLd] at hfin
    rw [hLd]
    rw [hii] at C1 hL0 hfin
    rw [hii]
    clear fin H hLd hk hm hi hi0 hp hii hN
    go_enter Tryz.func42, Tryz.ntmps42
    go_wp2_with fail
    refine C0.out.mono ?_
    rintro e w0 ⟨rfl, e0⟩
    rw [e0]
    clear e0 w0
    go_wp2_with fail
    refine (C1.out _).mono ?_
    rintro e w1 ⟨s, rfl, hs, hb1⟩
    have hb : Below w.heap.size w w1 := ((Below.refl _ w).alloc (Nat.le_refl _) _).trans (hb1.mono (by rw [World.size_alloc]; exact Nat.le_succ _))
    have C2 := Lib.hid (hfin.out w1 hb)
    have hs2 := hs k rfl
    subst hs2
    clear hfin hb hb1 C0 C1 hs
    go_wp2_with fail
    refine C2.out.mono ?_
    rintro e w5 ⟨rfl, k2, w6, hr6, hend⟩
    clear C2
    go_wp2_with (at_delete; refine delete_eq rfl _ _ _ _ rfl _ _ rfl rfl hr6 ?_)
    go_ret
    exact ⟨rfl, hend.out⟩

def dropE (L : List G) (i : Int) : Int := if hasG L i then 0 else 12
theorem delG_none {L : List G} {i : Int} (h : hasG L i = false) : delG i L = L := by
  unfold delG
  exact List.filter_eq_self.2 fun x hx => by simpa using hasG_no h hx
theorem idrop_any {w : World} {x : Nat} {L : List G} {N base : Nat} {col : Nat → Col} (H : Idx w x L N base col) (i : Int) (hi : (Lit.int .i64 i).wf = true) (hN : N < 1000000) :
    Calls Tryz.prog 42 #[.pointer (some ⟨x, 0, none⟩), .int .i64 i] w fun e w' => e = .returned (.int .i64 (dropE L i)) ∧ ∃ col', Idx w' x (delG i L) (N + 1) base col' ∧ Step col w col' w' := by
  obtain ⟨most, bg, bl, bo, cl, co, Fl, ao, H⟩ := H
  unfold dropE
  cases h : hasG L i with
  | true =>
    obtain ⟨g, hm, rfl⟩ := hasG_iff.1 h
    exact idrop_has H g hm hN
  | false =>
    rw [delG_none h]
    refine (idrop_none H i hi h).mono ?_
    rintro e w' ⟨rfl, hb⟩
    exact ⟨rfl, col, ⟨most, bg, bl, bo, cl, co, Fl, ao, (H.mid.more (Nat.le_succ N)).idx H.mst H.srt H.ids H.chk H.len |>.same hb.size (fun k hk _ => hb.block k hk)⟩, Step.below hb⟩
end Go.Proofs.YtnpgmekgmelamaaGreat
