/-
  What is proved: a list of acts as an argument; what the laws' helper do does with an index; Has and Len of an index.
-/
import Derived.Test.YtnpgmekgmelamaaGreatIxOpen
import Derived.Test.YtnpgmekgmelamaaGreatIxGlobs
import Derived.Test.YtnpgmekgmelamaaGreatDfSrt
import Derived.Test.YtnpgmekgmelamaaGreatRows
import Derived.Deep.Slices
import Derived.Carry
namespace Go.Proofs.YtnpgmekgmelamaaGreat
open Go.RowKit Go.Shelf Go.Maps
open Go.ChangeShapes Go.WideShapes Go.ChangeAt

theorem laid_out : laidOutB Tryz.prog = true := by kernel_rfl
instance : Inhabited ActA := ⟨⟨0, 0, ByteArray.empty, false, ByteArray.empty⟩⟩
/-- A list of acts that came in. -/
def ActsL (W : World) (v : Value) (l : List ActA) : Prop := ActsAt W v l ∧ (∀ (j : Nat) x, l[j]? = some x → ActOk x) ∧ l.length ≤ maxLen

set_option maxRecDepth 100000 in
theorem open_acts {H : Type} {enc : TypeId × Value → H} {W : World} {base : Nat} {v : Value} {d : DataW H} {p : List MemPlace} (hv : Value.okWide Tryz.prog W .any base 47 v)
    (h : DataW.Trod enc Tryz.prog W 0 (fun _ => true) true 47 v d p) (hlt : ∀ x ∈ p, x.block < W.heap.size) : ∃ l, ActsL W v l := by
  obtain ⟨a0, len, cap, rfl⟩ := okWide_slice Tryz.underlying47 hv
  obtain ⟨fuel, hf⟩ := h
  rcases Go.Deep.open_slice Tryz.underlying47 hf with ⟨hcs, _⟩ | ⟨a, len', cap', m, n, D, Pl, hcs, _, hl, hm, hmm, hx, hc⟩
  · simp [Value.cells] at hcs
    obtain ⟨rfl, rfl, rfl⟩ := hcs
    exact ⟨[], ⟨none, 0, rfl, fun j x hx => by simp at hx⟩, fun j x hx => by simp at hx, Nat.zero_le _⟩
  · simp [Value.cells] at hcs
    obtain ⟨rfl, rfl, rfl⟩ := hcs
    simp only [if_true] at hmm
    subst hmm
    simp only [Prod.mk.injEq] at hx
    obtain ⟨rfl, rfl⟩ := hx
    rw [cells_act] at hc hlt
    have each : ∀ i, i < len → ∃ A : ActA, ActOk A ∧ ∀ j, j < 5 → W.cell? (a.add (i * 5 + j)) = (actCells A)[j]? := fun i hi => by
      obtain ⟨cs', h1, h2⟩ := hc i (by omega)
      obtain ⟨_, hlen, hcell⟩ := World.cells?_some h1
      obtain ⟨A, rfl, hok⟩ := trod_act hlen h2
      refine ⟨A, hok, fun j hj => ?_⟩
      have := hcell j hj
      rw [Go.Deep.add_add] at this
      exact this
    obtain ⟨A, hA⟩ := Go.Deep.choose_lt each
    have hget : ∀ {j : Nat} {x : ActA}, ((List.range len).map A)[j]? = some x → j < len ∧ A j = x := fun {j x} hx => by
      have hj := (List.getElem?_eq_some_iff.1 hx).1
      simp at hj
      refine ⟨hj, ?_⟩
      simpa [hj] using hx
    refine ⟨(List.range len).map A, ⟨some a, m, by simp, fun j x hx => ?_⟩, fun j x hx => ?_, by simp; omega⟩
    · obtain ⟨hj, rfl⟩ := hget hx
      obtain ⟨b, off, spot⟩ := a
      have hspot : spot = none := by
        have := (hA 0 (by omega)).2 0 (by decide)
        simpa [Addr.add] using World.cell?_spot (this.trans (show (actCells (A 0))[0]? = some (.int .i64 (A 0).kind) from rfl))
      subst hspot
      refine ⟨b, off, rfl, hlt (.cell b off) (List.mem_append_left _ (MemPlace.mem_row.2 ⟨0, by omega, by simp⟩)), fun i hi => ?_⟩
      rw [← (hA j hj).2 i hi]
      congr 1
      unfold Addr.add
      split <;> simp_all [Nat.add_assoc]
    · obtain ⟨hj, rfl⟩ := hget hx
      exact (hA j hj).1

/-- What an act's call returns, and what is there then. -/
def doE (L : List G) (a : ActA) : Int := if a.kind.tmod 2 = 0 then putE L a.id a.p else dropE L a.id
def doL (L : List G) (a : ActA) : List G := if a.kind.tmod 2 = 0 then putL L a.id a.p a.f else delG a.id L

theorem letters_few (p : ByteArray) (f : Bool) (h : checkN p.size = 0) : SortsN ((cntL f (normP p)).filter fun c => !wildC c).length := sortsN_any (by
  have h1 := List.length_filter_le (fun c => !wildC c) (cntL f (normP p))
  have h2 : (cntL f (normP p)).length = (normP p).length := cntL_len f (normP p)
  have h3 := normP_len p
  have h4 := (check_pos h).2
  omega)
theorem put_all {w : World} {x : Nat} {L : List G} {N base : Nat} {col : Nat → Col} (H : Idx w x L N base col) (i : Int) (hi : (Lit.int .i64 i).wf = true) (p : ByteArray) (f : Bool) (hp : p.size ≤ 1000000) (hN : N < 1000000) :
    Calls Tryz.prog 41 #[.pointer (some ⟨x, 0, none⟩), .int .i64 i, .string p, .bool f] w fun e w' => e = .returned (.int .i64 (putE L i p)) ∧ ∃ col', Idx w' x (putL L i p f) (N + 1) base col' ∧ Step col w col' w' :=
  iput_any H i hi p f hp hN (fun _ hc => letters_few p f hc)
theorem has_all {w : World} {x : Nat} {L : List G} {N base : Nat} {col : Nat → Col} (H : Idx w x L N base col) (i : Int) (hi : (Lit.int .i64 i).wf = true) :
    Calls Tryz.prog 37 #[.pointer (some ⟨x, 0, none⟩), .int .i64 i] w fun e w' => e = .returned (.bool (hasG L i)) ∧ Below w.heap.size w w' := by
  obtain ⟨most, bg, bl, bo, cl, co, Fl, ao, H⟩ := H
  exact H.has i hi
theorem len_all {w : World} {x : Nat} {L : List G} {N base : Nat} {col : Nat → Col} (H : Idx w x L N base col) :
    Calls Tryz.prog 36 #[.pointer (some ⟨x, 0, none⟩)] w fun e w' => e = .returned (.int .i64 (L.length : Int)) ∧ w' = w := by
  obtain ⟨most, bg, bl, bo, cl, co, Fl, ao, H⟩ := H
  exact H.lenA

set_option maxHeartbeats 1000000 in
theorem do_any {w : World} {x : Nat} {L : List G} {N base : Nat} {col : Nat → Col} (H : Idx w x L N base col) (a : ActA) (ho : ActOk a) (hp : a.p.size ≤ 1000000) (hN : N < 1000000) :
    Calls Tryz.prog 32 #[.pointer (some ⟨x, 0, none⟩), actV a] w fun e w' => e = .returned (.int .i64 (doE L a)) ∧ ∃ col', Idx w' x (doL L a) (N + 1) base col' ∧ Step col w col' w' := by
  have hb0 : Below w.heap.size w (w.alloc (.cells #[.int .i64 a.kind, .int .i64 a.id, .string a.p, .bool a.f, .string a.t] 54)) := (Below.refl _ _).alloc (Nat.le_refl _) _
  have H1 := H.below hb0
  have CP := Lib.hid (put_all H1 a.id ho.2.1 a.p a.f hp hN)
  have CD := Lib.hid (idrop_any H1 a.id ho.2.1 hN)
  have HS : Hid (∀ {col' : Nat → Col} {w'}, Step col (w.alloc (.cells #[.int .i64 a.kind, .int .i64 a.id, .string a.p, .bool a.f, .string a.t] 54)) col' w' → Step col w col' w') := Lib.hid (fun h => (Step.below hb0).trans h)
  obtain ⟨k, i, p, f, t⟩ := a
  unfold actV doE doL
  dsimp only at CP CD HS ⊢
  obtain ⟨ep, hep⟩ : ∃ ep, putE L i p = ep := ⟨_, rfl⟩
  obtain ⟨ed, hed⟩ : ∃ ed, dropE L i = ed := ⟨_, rfl⟩
  obtain ⟨lp, hlp⟩ : ∃ lp, putL L i p f = lp := ⟨_, rfl⟩
  obtain ⟨ld, hld⟩ : ∃ ld, delG i L = ld := ⟨_, rfl⟩
  rw [hep, hlp] at CP
  rw [hed, hld] at CD
  rw [hep, hlp, hed, hld]
  clear H H1 hb0 ho hp hN hep hlp hed hld
  by_cases hk : k.tmod 2 = 0
  · rw [if_pos hk, if_pos hk]
    have hk2 : (k.tmod 2 == 0) = true := by simpa using hk
    go_enter Tryz.func32, Tryz.ntmps32
    go_wp2_with fail
    refine CP.out.mono ?_
    rintro e w' ⟨rfl, col', hI, hS⟩
    have hfin := Lib.hid (HS.out hS)
    have hI2 := Lib.hid hI
    clear hS hI
    go_wp2
    go_ret
    exact ⟨rfl, col', hI2.out, hfin.out⟩
  · rw [if_neg hk, if_neg hk]
    have hk2 : (k.tmod 2 == 0) = false := by simpa using hk
    go_enter Tryz.func32, Tryz.ntmps32
    go_wp2_with fail
    refine CD.out.mono ?_
    rintro e w' ⟨rfl, col', hI, hS⟩
    have hfin := Lib.hid (HS.out hS)
    have hI2 := Lib.hid hI
    clear hS hI
    go_wp2
    go_ret
    exact ⟨rfl, col', hI2.out, hfin.out⟩

theorem lightL_all {l : List ActA} (h : lightL l = true) : l.length ≤ 60 ∧ ∀ (j : Nat) x, l[j]? = some x → x.p.size ≤ 300 ∧ x.t.size ≤ 100 := by
  unfold lightL at h
  rw [Bool.and_eq_true, List.all_eq_true] at h
  refine ⟨by simpa using h.2, fun j x hx => ?_⟩
  have := h.1 x (List.mem_of_getElem? hx)
  unfold lightA at this
  simpa using this
/-- The cells of the act at j, in any later world. -/
theorem ActsAt.cells {w : World} {va : Option Addr} {n vc : Nat} {l : List ActA} (h : ActsAt w (.slice va n vc) l) : n = l.length ∧ ∀ (j : Nat) (hj : j < l.length), ∃ b off, va = some ⟨b, off, none⟩ ∧ ∀ W, Below w.heap.size w W →
    W.cell? ⟨b, off + j * 5, none⟩ = some (.int .i64 l[j].kind) ∧ W.cell? ⟨b, off + j * 5 + 1, none⟩ = some (.int .i64 l[j].id) ∧ W.cell? ⟨b, off + j * 5 + 2, none⟩ = some (.string l[j].p) ∧ W.cell? ⟨b, off + j * 5 + 3, none⟩ = some (.bool l[j].f) ∧ W.cell? ⟨b, off + j * 5 + 4, none⟩ = some (.string l[j].t) := by
  obtain ⟨a, cap, e, h⟩ := h
  injection e with e1 e2 e3
  subst e1
  refine ⟨e2, fun j hj => ?_⟩
  obtain ⟨b, off, e4, hb, hc⟩ := h j _ (List.getElem?_eq_getElem hj)
  refine ⟨b, off, e4, fun W hW => ?_⟩
  have hc' : ∀ i, i < 5 → W.cell? ⟨b, off + j * 5 + i, none⟩ = (actCells l[j])[i]? := fun i hi => by rw [World.cell?_of_block (w := w) (hW.block b hb)]; exact hc i hi
  exact ⟨hc' 0 (by decide), hc' 1 (by decide), hc' 2 (by decide), hc' 3 (by decide), hc' 4 (by decide)⟩
end Go.Proofs.YtnpgmekgmelamaaGreat
