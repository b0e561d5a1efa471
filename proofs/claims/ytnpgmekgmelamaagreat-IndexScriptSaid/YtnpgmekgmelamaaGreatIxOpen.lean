/-
  What is proved: an act as an argument; what the laws' helper light tells of a list of one act.
-/
import Derived.Test.YtnpgmekgmelamaaGreatIxLives
import Derived.Lib.SmallJoins
import Derived.ProofKit
import Derived.OpenShut
import Derived.ShutString
namespace Go.Proofs.YtnpgmekgmelamaaGreat
open Go.RowKit Go.Shelf Go.Maps
open Go.ChangeShapes Go.WideShapes Go.ChangeAt
open Go.ChangeMaps (open_string shut_string)

structure ActA where
  kind : Int
  id : Int
  p : ByteArray
  f : Bool
  t : ByteArray
def actV (a : ActA) : Value := .agg #[.int .i64 a.kind, .int .i64 a.id, .string a.p, .bool a.f, .string a.t]
def actCells (a : ActA) : List Value := [.int .i64 a.kind, .int .i64 a.id, .string a.p, .bool a.f, .string a.t]
def ActOk (a : ActA) : Prop := (Lit.int .i64 a.kind).wf = true ∧ (Lit.int .i64 a.id).wf = true ∧ a.p.size ≤ maxLen ∧ a.t.size ≤ maxLen

theorem cells_act : Tryz.prog.cellsOf 54 = 5 := of_decide_eq_true (by kernel_rfl)
theorem under_act : ∃ f0 f1 f2 f3 f4 : Field, Tryz.prog.underlying 54 = some (.struct #[f0, f1, f2, f3, f4]) ∧ (f0.type = 3 ∧ f1.type = 3 ∧ f2.type = 9 ∧ f3.type = 4 ∧ f4.type = 9) ∧ (f0.offset = 0 ∧ f1.offset = 1 ∧ f2.offset = 2 ∧ f3.offset = 3 ∧ f4.offset = 4) := ⟨_, _, _, _, _, Tryz.underlying54, ⟨rfl, rfl, rfl, rfl, rfl⟩, ⟨rfl, rfl, rfl, rfl, rfl⟩⟩

set_option maxRecDepth 100000 in
/-- The cells of an act, as they are read. -/
theorem trod_act {H : Type} {enc : TypeId × Value → H} {W : World} {base : Nat} {sp : Nat → Bool} {held : Bool} {fuel : Nat} {cs : List Value} {y : DataW H × List MemPlace} (hl : cs.length = 5) (h : DataW.trod enc Tryz.prog W base sp held fuel 54 cs = some y) : ∃ a, cs = actCells a ∧ ActOk a := by
  obtain ⟨f0, f1, f2, f3, f4, hu, ⟨t0, t1, t2, t3, t4⟩, ⟨o0, o1, o2, o3, o4⟩⟩ := under_act
  obtain ⟨xs, n, _, rfl, _, hlen, hf⟩ := DataW.trod_struct hu h
  match cs, hl with
  | [c0, c1, c2, c3, c4], _ =>
    have k1 : Tryz.prog.cellsOf 3 = 1 := of_decide_eq_true (by kernel_rfl)
    have k2 : Tryz.prog.cellsOf 9 = 1 := of_decide_eq_true (by kernel_rfl)
    have k3 : Tryz.prog.cellsOf 4 = 1 := of_decide_eq_true (by kernel_rfl)
    obtain ⟨x0, x1, x2, x3, x4, rfl⟩ : ∃ x0 x1 x2 x3 x4, xs = [x0, x1, x2, x3, x4] := by
      match xs, hlen with
      | [x0, x1, x2, x3, x4], _ => exact ⟨x0, x1, x2, x3, x4, rfl⟩
    have h0 := hf 0 f0 rfl
    have h1 := hf 1 f1 rfl
    have h2 := hf 2 f2 rfl
    have h3 := hf 3 f3 rfl
    have h4 := hf 4 f4 rfl
    rw [t0, o0, k1] at h0
    rw [t1, o1, k1] at h1
    rw [t2, o2, k2] at h2
    rw [t3, o3, k3] at h3
    rw [t4, o4, k2] at h4
    obtain ⟨a0, e0, _, w0⟩ := DataW.trod_int Tryz.underlying3 h0
    obtain ⟨a1, e1, _, w1⟩ := DataW.trod_int Tryz.underlying3 h1
    obtain ⟨a2, e2, _, w2⟩ := DataW.trod_string Tryz.underlying9 h2
    obtain ⟨a3, e3, _⟩ := DataW.trod_bool Tryz.underlying4 h3
    obtain ⟨a4, e4, _, w4⟩ := DataW.trod_string Tryz.underlying9 h4
    simp at e0 e1 e2 e3 e4
    subst e0 e1 e2 e3 e4
    exact ⟨⟨a0, a1, a2, a3, a4⟩, rfl, w0, w1, w2, w4⟩
set_option maxRecDepth 100000 in
theorem open_act {H : Type} {enc : TypeId × Value → H} {W : World} {base : Nat} {v : Value} {d : DataW H} {p : List MemPlace} (hv : Value.okWide Tryz.prog W .any base 54 v)
    (h : DataW.Trod enc Tryz.prog W 0 (fun _ => true) true 54 v d p) : ∃ a, v = actV a ∧ ActOk a := by
  obtain ⟨f0, f1, f2, f3, f4, hu, _⟩ := under_act
  obtain ⟨cs, rfl, hsz⟩ := okWide_struct hu hv
  obtain ⟨fuel, hf⟩ := h
  obtain ⟨a, e, ho⟩ := trod_act (by rw [Value.cells]; simpa using hsz.trans cells_act) hf
  refine ⟨a, ?_, ho⟩
  have : cs.toList = actCells a := e
  unfold actV
  congr 1
  apply Array.ext'
  rw [this]; rfl

/-- A list of acts in memory. -/
def ActsAt (W : World) (v : Value) (l : List ActA) : Prop := ∃ a cap, v = .slice a l.length cap ∧ ∀ j x, l[j]? = some x → ∃ b off, a = some ⟨b, off, none⟩ ∧ b < W.heap.size ∧ ∀ i, i < 5 → W.cell? ⟨b, off + j * 5 + i, none⟩ = (actCells x)[i]?
theorem ActsAt.below {W W' : World} {v : Value} {l : List ActA} (h : ActsAt W v l) (hb : Below W.heap.size W W') : ActsAt W' v l := by
  obtain ⟨a, cap, e, h⟩ := h
  refine ⟨a, cap, e, fun j x hx => ?_⟩
  obtain ⟨b, off, e2, h1, h2⟩ := h j x hx
  exact ⟨b, off, e2, by have := hb.size; omega, fun i hi => by rw [World.cell?_of_block (w := W) (hb.block b h1)]; exact h2 i hi⟩

/-- Is an act gone through? -/
def lightA (a : ActA) : Bool := decide (a.p.size ≤ 300) && decide (a.t.size ≤ 100)
def lightL (l : List ActA) : Bool := l.all lightA && decide (l.length ≤ 60)

set_option maxRecDepth 100000 in
set_option maxHeartbeats 1000000 in
theorem light_any {w : World} {v : Value} {l : List ActA} (h : ActsAt w v l) (hn : l.length ≤ 9223372036854775807) :
    Calls Tryz.prog 27 #[v] w fun e w' => e = .returned (.bool (lightL l)) ∧ w' = w := by
  obtain ⟨a, cap, rfl, h⟩ := h
  go_enter Tryz.func27, Tryz.ntmps27
  go_wp2
  go_loopg [3] l.length (fun gk s3 wr => ∃ j : Nat, j + gk = l.length ∧ s3 = .int .i64 j ∧ Hid (wr = w) ∧ Hid ((l.take j).all lightA = true))
  case atStart => exact ⟨0, by omega, rfl, Lib.hid rfl, Lib.hid rfl⟩
  case round =>
    obtain ⟨j, hjg, rfl, HW, HA⟩ := hrel
    by_cases hj : j < l.length
    · have hjz : (j : Int) < (l.length : Int) := by omega
      obtain ⟨b, off, ea, hb, hc⟩ := h j l[j] (List.getElem?_eq_getElem hj)
      rw [← HW.out] at hc
      obtain ⟨y, hy⟩ : ∃ y, l[j] = y := ⟨_, rfl⟩
      rw [hy] at hc
      have c2 : wr.cell? ⟨b, off + j * 5 + 2, none⟩ = some (.string y.p) := hc 2 (by decide)
      have c4 : wr.cell? ⟨b, off + j * 5 + 4, none⟩ = some (.string y.t) := hc 4 (by decide)
      subst ea
      have HN : Hid (lightA y = false → lightL l = false) := Lib.hid (fun e => by
        unfold lightL
        have : l.all lightA = false := by
          rw [List.all_eq_false]
          exact ⟨l[j], List.getElem_mem hj, by rw [hy, e]; decide⟩
        rw [this]; rfl)
      have HS : Hid (lightA y = true → (l.take (j + 1)).all lightA = true) := Lib.hid (fun e => by
        rw [List.take_add_one, List.getElem?_eq_getElem hj, hy]
        simp [HA.out, e])
      have HL : Hid (lightA y = (decide (y.p.size ≤ 300) && decide (y.t.size ≤ 100))) := Lib.hid rfl
      clear hc h HA hy
      by_cases hp : y.p.size ≤ 300
      · have hpz : ¬ (300 : Int) < (y.p.size : Int) := by omega
        by_cases ht : y.t.size ≤ 100
        · have htz : ¬ (100 : Int) < (y.t.size : Int) := by omega
          go_wp2
          go_roundg (l.length - (j + 1))
          case measure => omega
          case rel => exact ⟨j + 1, by omega, by go_num, HW, Lib.hid (HS.out (by rw [HL.out]; simp [hp, ht]))⟩
        · have htz : (100 : Int) < (y.t.size : Int) := by omega
          go_wp2
          refine bodyPost_ret (v := .bool false) (by simp [results, Tryz.results27, go_sem]) rfl ?_
          exact ⟨by rw [HN.out (by rw [HL.out]; simp [ht])], HW.out⟩
      · have hpz : (300 : Int) < (y.p.size : Int) := by omega
        go_wp2
        refine bodyPost_ret (v := .bool false) (by simp [results, Tryz.results27, go_sem]) rfl ?_
        exact ⟨by rw [HN.out (by rw [HL.out]; simp [hp])], HW.out⟩
    · have hjz : ¬ (j : Int) < (l.length : Int) := by omega
      obtain rfl : j = l.length := by omega
      have HE : Hid (lightL l = decide (l.length ≤ 60)) := Lib.hid (by
        have := HA.out
        rw [List.take_length] at this
        unfold lightL
        rw [this]; rfl)
      clear HA h
      by_cases h6 : l.length ≤ 60
      · have h6z : (l.length : Int) ≤ (60 : Int) := by omega
        go_wp2
        go_ret
        exact ⟨by rw [HE.out, decide_eq_true h6]; rfl, HW.out⟩
      · have h6z : ¬ (l.length : Int) ≤ (60 : Int) := by omega
        go_wp2
        go_ret
        exact ⟨by rw [HE.out, decide_eq_false h6]; rfl, HW.out⟩
theorem acts_one (a : ActA) {b : Nat} {w : World} (hb : w.heap[b]? = some (.cells #[.int .i64 a.kind, .int .i64 a.id, .string a.p, .bool a.f, .string a.t] 54 (0, 0))) : ActsAt w (.slice (some ⟨b, 0, none⟩) 1 1) [a] := by
  refine ⟨some ⟨b, 0, none⟩, 1, rfl, fun j x hx => ⟨b, 0, rfl, (Array.getElem?_eq_some_iff.1 hb).1, fun i hi => ?_⟩⟩
  have hj : j = 0 := by
    have := (List.getElem?_eq_some_iff.1 hx).1
    simp at this
    omega
  subst hj
  have hxa : a = x := by simpa using hx
  subst hxa
  rw [Nat.zero_mul, Nat.zero_add, cell_heap hb]
  match i, hi with
  | 0, _ => rfl
  | 1, _ => rfl
  | 2, _ => rfl
  | 3, _ => rfl
  | 4, _ => rfl
end Go.Proofs.YtnpgmekgmelamaaGreat
