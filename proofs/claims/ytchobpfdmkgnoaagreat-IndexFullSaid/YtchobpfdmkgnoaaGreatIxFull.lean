/-
  What is proved: outlawlaw10.IndexFull returns true at any two numbers: as many globs as allowed, and no more. No conditions.
-/
import Derived.Test.YtchobpfdmkgnoaaGreatIxOpen
import Derived.Test.YtchobpfdmkgnoaaGreatRows
import Derived.ProofKit
import Derived.OpenShut
import Derived.ShutString
import Derived.Carry
namespace Go.Proofs.YtchobpfdmkgnoaaGreat
open Go.RowKit Go.Shelf Go.Maps

theorem pick_any (x : Int) (n : Nat) (w : World) (hn0 : 0 < n) (hn : n ≤ 1000000) :
    Calls Tryz.prog 29 #[.int .i64 x, .int .i64 n] w fun e w' => ∃ k : Nat, k < n ∧ e = .returned (.int .i64 k) ∧ w = w' := by
  have h1 : decide ((n : Int) < 1) = false := by simp; omega
  have hr0 : x.tmod n < n := Int.tmod_lt_of_pos x (by omega)
  have hr1 : -(n : Int) < x.tmod n := Int.lt_tmod_of_pos x (by omega)
  have hnz : ((n : Int) == 0) = false := by simp; omega
  obtain ⟨r, hr⟩ : ∃ r, r = x.tmod n := ⟨_, rfl⟩
  rw [← hr] at hr0 hr1
  have hr' := hr.symm
  clear hr
  by_cases hneg : r < 0
  · have h2 : decide (r < 0) = true := by simpa using hneg
    go_enter Tryz.func29, Tryz.ntmps29
    go_wp2
    go_ret
    refine ⟨(r + n).toNat, by omega, ?_, rfl⟩
    have : (((r + n).toNat : Nat) : Int) = r + n := by omega
    rw [this]; rfl
  · have h2 : decide (r < 0) = false := by simpa using hneg
    go_enter Tryz.func29, Tryz.ntmps29
    go_wp2
    go_ret
    refine ⟨r.toNat, by omega, ?_, rfl⟩
    have : ((r.toNat : Nat) : Int) = r := by omega
    rw [this]; rfl

/-- Step: what stood on a block that is none of the index's. -/
theorem Step.cellAt {c0 c1 : Nat → Col} {W W' : World} (h : Step c0 W c1 W') {b j : Nat} (hb : b < W.heap.size) (hf : c0 b = .free) : W'.cell? ⟨b, j, none⟩ = W.cell? ⟨b, j, none⟩ := World.cell?_of_block (w := W) (h.keep b hb hf)

def gA (i : Int) : G := ⟨i, ⟨#[97]⟩, false⟩
/-- The globs a, with n numbers from a first one on, by steps. -/
def rowA (f b : Nat) (n : Nat) : List G := (List.range n).map fun j => gA ((f + j * b : Nat) : Int)
theorem rowA_len (f b n : Nat) : (rowA f b n).length = n := by simp [rowA]
theorem rowA_mem {f b n : Nat} {g : G} : g ∈ rowA f b n ↔ ∃ j, j < n ∧ gA ((f + j * b : Nat) : Int) = g := by simp [rowA]
theorem rowA_has {f b n m : Nat} (hb : 1 ≤ b) (hm : n ≤ m) : hasG (rowA f b n) ((f + m * b : Nat) : Int) = false := by
  unfold hasG
  rw [List.any_eq_false]
  intro g hg
  obtain ⟨j, hj, rfl⟩ := rowA_mem.1 hg
  simp only [gA, beq_iff_eq]
  have : j * b < m * b := Nat.mul_lt_mul_of_pos_right (by omega) (by omega)
  omega
theorem insG_end (g : G) : ∀ L : List G, (∀ h, h ∈ L → h.id < g.id) → insG g L = L ++ [g]
  | [], _ => rfl
  | h :: r, hl => by
    unfold insG
    rw [if_pos (hl h (by simp)), insG_end g r (fun x hx => hl x (by simp [hx]))]
    rfl
theorem rowA_succ (f b n : Nat) (hb : 1 ≤ b) : insG (gA ((f + n * b : Nat) : Int)) (rowA f b n) = rowA f b (n + 1) := by
  rw [insG_end]
  · unfold rowA
    rw [List.range_succ, List.map_append]; rfl
  · intro h hh
    obtain ⟨j, hj, rfl⟩ := rowA_mem.1 hh
    have : j * b < n * b := Nat.mul_lt_mul_of_pos_right hj (by omega)
    simp only [gA]
    omega
theorem putE_row {L : List G} {i : Nat} (hh : hasG L (i : Int) = false) : putE L (i : Int) ⟨#[97]⟩ = if 200 ≤ L.length then 13 else 0 := by
  unfold putE
  rw [if_neg (by omega), if_neg (by rw [hh]; decide), if_neg (by decide)]
theorem wf_small {i : Nat} (h : i ≤ 1000000) : (Lit.int .i64 (i : Int)).wf = true := by
  simp [Lit.wf]
  have : IntKind.i64.min = -9223372036854775808 := rfl
  omega
theorem rowA_all (f b n : Nat) : (rowA f b n).filter (mG [97]) = rowA f b n := by
  refine List.filter_eq_self.2 fun g hg => ?_
  obtain ⟨j, _, rfl⟩ := rowA_mem.1 hg
  exact (by decide +kernel : mt false [97] [97] = true)
theorem put_a {W : World} {x : Nat} {L : List G} {N base : Nat} {col : Nat → Col} (H : Idx W x L N base col) {i : Nat} (hi : i ≤ 1000000) (hh : hasG L (i : Int) = false) (hN : N < 1000) (hl : L.length < 200) :
    Calls Tryz.prog 13 #[.pointer (some ⟨x, 0, none⟩), .int .i64 (i : Int), .string ⟨#[97]⟩, .bool false] W fun e w' => e = .returned (.int .i64 0) ∧ ∃ col', Idx w' x (insG (gA i) L) (N + 1) base col' ∧ Step col W col' w' := by
  have := iput_any H (i : Int) (wf_small hi) ⟨#[97]⟩ false (by decide) (by omega) (fun _ _ => sortsN_small (by decide +kernel))
  have e : putE L (i : Int) ⟨#[97]⟩ = 0 := by rw [putE_row hh, if_neg (by omega)]
  unfold putL at this
  rw [e, if_pos rfl] at this
  exact this
theorem put_full {W : World} {x : Nat} {L : List G} {N base : Nat} {col : Nat → Col} (H : Idx W x L N base col) {i : Nat} (hi : i ≤ 1000000) (hh : hasG L (i : Int) = false) (hN : N < 1000) (hl : L.length = 200) :
    Calls Tryz.prog 13 #[.pointer (some ⟨x, 0, none⟩), .int .i64 (i : Int), .string ⟨#[97]⟩, .bool false] W fun e w' => e = .returned (.int .i64 13) ∧ ∃ col', Idx w' x L (N + 1) base col' ∧ Step col W col' w' := by
  have := iput_any H (i : Int) (wf_small hi) ⟨#[97]⟩ false (by decide) (by omega) (fun _ _ => sortsN_small (by decide +kernel))
  have e : putE L (i : Int) ⟨#[97]⟩ = 13 := by rw [putE_row hh, if_pos (by omega)]
  unfold putL at this
  rw [e, if_neg (by decide)] at this
  exact this

set_option maxRecDepth 100000 in
set_option maxHeartbeats 4000000 in
theorem ifull_any (a b : Int) (w : World) : Calls Tryz.prog 7 #[.int .i64 a, .int .i64 b] w fun e w' => e = .returned (.bool true) ∧ Below w.heap.size w w' := by
  have CL := Lib.hid (ilives_any w)
  have C0 := Lib.hid (fun W => inew_any 4 W)
  have CP := Lib.hid (fun z W => pick_any z 1000 W (by decide) (by decide))
  go_enter Tryz.func7, Tryz.ntmps7
  go_wp2_with fail
  refine CL.out.mono ?_
  rintro e w1 ⟨rfl, hb1⟩
  go_wp2_with fail
  refine (C0.out _).mono ?_
  rintro e w2 ⟨x, col, rfl, H2, hb2⟩
  have hbw2 := hb1.trans (hb2.mono hb1.size)
  obtain ⟨B, hB⟩ : ∃ B, w1.heap.size = B := ⟨_, rfl⟩
  rw [hB] at H2
  have hwB : w.heap.size ≤ B := by rw [← hB]; exact hb1.size
  have hBz : B ≤ w2.heap.size := by rw [← hB]; exact hb2.size
  clear CL C0 hb1 hb2 hB
  go_wp2_with fail
  refine (CP.out _ _).mono ?_
  rintro e w3 ⟨f, hf, rfl, e3⟩
  rw [← e3]
  clear e3 w3
  go_wp2_with fail
  refine (CP.out _ _).mono ?_
  rintro e w3 ⟨q, hq, rfl, e3⟩
  rw [← e3]
  clear e3 w3 CP
  obtain ⟨s, hs⟩ : ∃ s : Nat, 1 + q = s := ⟨_, rfl⟩
  have hsz : (1 : Int) + (q : Int) = (s : Int) := by omega
  have hsw : IntKind.i64.wrap (s : Int) = (s : Int) := by rw [IntKind.wrap_i64]; omega
  have hs1 : 1 ≤ s := by omega
  have hs2 : s ≤ 1000 := by omega
  clear hs hq
  go_wp2
  go_loopg [8] 200 (fun gk s8 wr => ∃ (i : Nat) (col : Nat → Col), i + gk = 200 ∧ s8 = .int .i64 i ∧ Hid (Idx wr x (rowA f s i) i B col) ∧ Hid (Below w.heap.size w wr) ∧ B ≤ wr.heap.size)
  case atStart => exact ⟨0, col, by omega, rfl, Lib.hid H2, Lib.hid hbw2, hBz⟩
  case round =>
    clear H2 hbw2 hBz
    obtain ⟨i, col', hig, rfl, HI, HB, hBr⟩ := hrel
    by_cases hi : i < 200
    · have hiz : (i : Int) < 200 := by omega
      obtain ⟨m, hm⟩ : ∃ m : Nat, i * s = m := ⟨_, rfl⟩
      have hmb : m ≤ 200000 := by rw [← hm]; exact Nat.le_trans (Nat.mul_le_mul (Nat.le_of_lt hi) hs2) (by decide)
      obtain ⟨d, hd⟩ : ∃ d : Nat, f + m = d := ⟨_, rfl⟩
      have m1 : (i : Int) * (s : Int) = (m : Int) := by rw [← hm, Int.natCast_mul]
      have m2 : IntKind.i64.wrap (m : Int) = (m : Int) := by rw [IntKind.wrap_i64]; omega
      have m3 : (f : Int) + (m : Int) = (d : Int) := by omega
      have m4 : IntKind.i64.wrap (d : Int) = (d : Int) := by rw [IntKind.wrap_i64]; omega
      have C := put_a (i := d) HI.out (by omega) (by rw [← hd, ← hm]; exact rowA_has hs1 (Nat.le_refl _)) (by omega) (by rw [rowA_len]; exact hi)
      rw [show insG (gA (d : Int)) (rowA f s i) = rowA f s (i + 1) by rw [← hd, ← hm]; exact rowA_succ f s i hs1] at C
      have C' : Hid (Calls Tryz.prog 13 #[.pointer (some ⟨x, 0, none⟩), .int .i64 (d : Int), .string ⟨#[97]⟩, .bool false] wr fun e w' => e = .returned (.int .i64 0) ∧ ∃ col', Hid (Idx w' x (rowA f s (i + 1)) (i + 1) B col') ∧ Hid (Below w.heap.size w w') ∧ B ≤ w'.heap.size) := Lib.hid (C.mono fun e w' ⟨h1, col2, h2, h3⟩ => ⟨h1, col2, Lib.hid h2, Lib.hid (HB.out.trans ((h3.from hBr (fun k hk => HI.out.free (.inl hk))).mono hwB)), by have := h3.os.size; omega⟩)
      clear C HI HB hBr hm hd
      go_wp2_with fail
      refine C'.out.mono ?_
      rintro e w4 ⟨rfl, col4, H4, hb4, hB4⟩
      clear C'
      go_wp2
      go_roundg (200 - (i + 1))
      case measure => omega
      case rel => exact ⟨i + 1, col4, by omega, by go_num, H4, hb4, hB4⟩
    · obtain rfl : i = 200 := by omega
      have hiz : ¬ ((200 : Nat) : Int) < 200 := by omega
      have hiz2 : ((200 : Nat) : Int) = 200 := rfl
      have CM : Hid (Calls Tryz.prog 15 #[.pointer (some ⟨x, 0, none⟩), .string ⟨#[97]⟩] wr fun e w' => ∃ g cap, e = .returned (.slice (some ⟨g, 0, none⟩) 200 cap) ∧ wr.heap.size ≤ g ∧ g < w'.heap.size ∧ w'.cell? ⟨g, 0, none⟩ = some (.int .i64 (f : Int)) ∧ Below wr.heap.size wr w') := Lib.hid (by
        refine (imatch_any HI.out (by decide) ⟨#[97]⟩ (by decide)).mono ?_
        rintro e w' ⟨v, ids, rfl, hb', hrow, hids⟩
        rw [show (⟨#[97]⟩ : ByteArray).data.toList = [97] from rfl, rowA_all] at hids
        have hl : ids.length = 200 := by rw [hids, List.length_map, rowA_len]
        have h0 : ids[0]? = some (f : Int) := by
          rw [hids]
          unfold rowA
          simp [gA]
        rcases hrow.2 with ⟨_, hz⟩ | ⟨g, cap, cur, rfl, h1, h2, h3, h4, h5, h6⟩
        · omega
        · refine ⟨g, cap, by rw [hl], h1, (hrow.lt g rfl).2, ?_, hb'⟩
          have := hrow.cells (g := g) rfl 0 (.int .i64 (f : Int)) (by rw [List.getElem?_map, h0]; rfl)
          rwa [show (⟨g, 0, none⟩ : Addr).add 0 = ⟨g, 0, none⟩ by unfold Addr.add; split <;> simp_all] at this)
      obtain ⟨m, hm⟩ : ∃ m : Nat, 200 * s = m := ⟨_, rfl⟩
      obtain ⟨d, hd⟩ : ∃ d : Nat, f + m = d := ⟨_, rfl⟩
      have m1 : (200 : Int) * (s : Int) = (m : Int) := by omega
      have m2 : IntKind.i64.wrap (m : Int) = (m : Int) := by rw [IntKind.wrap_i64]; omega
      have m3 : (f : Int) + (m : Int) = (d : Int) := by omega
      have m4 : IntKind.i64.wrap (d : Int) = (d : Int) := by rw [IntKind.wrap_i64]; omega
      have hdn : hasG (rowA f s 200) (d : Int) = false := by rw [← hd, ← hm]; exact rowA_has hs1 (Nat.le_refl _)
      have hfi : hasG (rowA f s 200) (f : Int) = true := hasG_iff.2 ⟨gA ((f + 0 * s : Nat) : Int), rowA_mem.2 ⟨0, by omega, rfl⟩, by simp [gA]⟩
      have CP : Hid (∀ W col, Idx W x (rowA f s 200) 200 B col → Calls Tryz.prog 13 #[.pointer (some ⟨x, 0, none⟩), .int .i64 (d : Int), .string ⟨#[97]⟩, .bool false] W fun e w' => e = .returned (.int .i64 13) ∧ ∃ col', Idx w' x (rowA f s 200) (200 + 1) B col' ∧ Step col W col' w') := Lib.hid (fun W col H => put_full H (by omega) hdn (by decide) (rowA_len _ _ _))
      have CLn : Hid (∀ W col, Idx W x (rowA f s 200) 201 B col → Calls Tryz.prog 18 #[.pointer (some ⟨x, 0, none⟩)] W fun e w' => e = .returned (.int .i64 200) ∧ w' = W) := Lib.hid (fun W col H => by
        obtain ⟨most, bg, bl, bo, cl, co, Fl, ao, H⟩ := H
        have := H.lenA
        rw [rowA_len] at this
        exact this)
      have CD : Hid (∀ W col, Idx W x (rowA f s 200) 201 B col → Calls Tryz.prog 17 #[.pointer (some ⟨x, 0, none⟩), .int .i64 (f : Int)] W fun e w' => e = .returned (.int .i64 0) ∧ ∃ col', Idx w' x (delG (f : Int) (rowA f s 200)) 202 B col' ∧ Step col W col' w') := Lib.hid (fun W col H => by
        have := idrop_any H (f : Int) (wf_small (by omega)) (by decide)
        unfold dropE at this
        rw [hfi] at this
        exact this)
      have CQ : Hid (∀ W col, Idx W x (delG (f : Int) (rowA f s 200)) 202 B col → Calls Tryz.prog 13 #[.pointer (some ⟨x, 0, none⟩), .int .i64 (d : Int), .string ⟨#[97]⟩, .bool false] W fun e w' => e = .returned (.int .i64 0) ∧ ∃ col', Idx w' x (insG (gA d) (delG (f : Int) (rowA f s 200))) (202 + 1) B col' ∧ Step col W col' w') := Lib.hid (fun W col H => by
        have hsorted : Sorted (rowA f s 200) := by
          obtain ⟨most, bg, bl, bo, cl, co, Fl, ao, h⟩ := HI.out
          exact h.srt
        refine put_a H (by omega) ?_ (by decide) ?_
        · have hdn' := hdn
          unfold hasG at hdn' ⊢
          rw [List.any_eq_false] at hdn' ⊢
          exact fun g hg => hdn' g (delG_mem.1 hg).1
        · obtain ⟨g, hg, hgi⟩ := hasG_iff.1 hfi
          have := delG_len hsorted hg
          rw [hgi, rowA_len] at this
          omega)
      have hfree : Hid (∀ k, wr.heap.size ≤ k → col' k = .free) := Lib.hid (fun k hk => HI.out.free (.inr hk))
      have hlow : Hid (∀ k, k < B → col' k = .free) := Lib.hid (fun k hk => HI.out.free (.inl hk))
      clear hm hd hdn hfi
      go_wp2_with fail
      refine CM.out.mono ?_
      rintro e w5 ⟨g, cap, rfl, hg1, hg2, hgc, hb5⟩
      have H5 := HI.out.below hb5
      have hbw5 := HB.out.trans (hb5.mono HB.out.size)
      have hB5 : B ≤ w5.heap.size := Nat.le_trans hBr hb5.size
      clear HI HB CM hb5
      go_wp2_with fail
      refine (CP.out _ _ H5).mono ?_
      rintro e w6 ⟨rfl, col6, H6, hS6⟩
      have hgc6 : w6.cell? ⟨g, 0, none⟩ = some (.int .i64 (f : Int)) := (hS6.cellAt hg2 (hfree.out g hg1)).trans hgc
      have hbw6 := hbw5.trans ((hS6.from hB5 (fun k hk => H5.free (.inl hk))).mono hwB)
      have hB6 : B ≤ w6.heap.size := by have := hS6.os.size; omega
      clear H5 hbw5 hB5 hS6 hgc hg2 CP hfree hlow
      have CL6 := Lib.hid (CLn.out _ _ H6)
      have CD6 := Lib.hid (CD.out _ _ H6)
      have HF6 : Hid (∀ k, k < B → col6 k = .free) := Lib.hid (fun k hk => H6.free (.inl hk))
      clear CLn CD H6
      go_wp2_with fail
      refine CL6.out.mono ?_
      rintro e w7 ⟨rfl, e7⟩
      rw [e7]
      clear e7 w7 CL6
      go_wp2_with fail
      refine CD6.out.mono ?_
      rintro e w8 ⟨rfl, col8, H8, hS8⟩
      have hbw8 := hbw6.trans ((hS8.from hB6 HF6.out).mono hwB)
      have hB8 : B ≤ w8.heap.size := by have := hS8.os.size; omega
      have CQ8 := Lib.hid (CQ.out _ _ H8)
      have HF8 : Hid (∀ k, k < B → col8 k = .free) := Lib.hid (fun k hk => H8.free (.inl hk))
      clear hS8 hbw6 hB6 HF6 CD6 CQ H8 hgc6
      go_wp2_with fail
      refine CQ8.out.mono ?_
      rintro e w9 ⟨rfl, col9, _, hS9⟩
      have hbw9 := hbw8.trans ((hS9.from hB8 HF8.out).mono hwB)
      clear hS9 CQ8 hbw8
      go_wp2
      go_ret
      exact ⟨rfl, hbw9⟩
open Go.ChangeShapes Go.WideShapes Go.ChangeAt
open Go.ChangeMaps (open_string shut_string)
theorem ifull_own : ownKnob Tryz.prog.godebug = none := by kernel_rfl

set_option maxRecDepth 100000 in
theorem ifull_lifted (os : Os) (started : os.Started) (H : Type) (enc : TypeId × Value → H) :
    ReturnsInHanded {} Tryz.checked os 7 .any (Rows.indexFullSpec.pre6 enc Tryz.prog Tryz.f7 Rows.indexFullRow.domain false) (Rows.indexFullSpec.post enc Tryz.prog Tryz.f7 false true false false) := by
  refine returnsInHanded_of_change (C := Tryz.checked) ifull_own started (by kernel_rfl) Tryz.func7
    (ChangeSpec.witness6 (enc := enc) (C := Tryz.checked) false ⟨#[], #[.int .i64 0, .int .i64 0], []⟩ 8 (by kernel_rfl) (by kernel_rfl) (by kernel_rfl) (by kernel_rfl)) ?_
  intro W base args ds gs before hval0 hW hcnd _
  have hval : ∀ (j : Nat) t v, Tryz.f7.params[j]? = some t → args[j]? = some v → Value.okWide Tryz.prog W .any base t v := hval0
  have hW' := hW
  obtain ⟨p, q, hA0, hV, rfl, hfz, hnd⟩ := hW
  have hA : DataW.TrodAll enc Tryz.prog W 0 (fun _ => true) true Tryz.f7.params.toList args.toList ds p := hA0
  rw [Tryz.params7] at hA hval
  obtain ⟨v0, vs0, d0, ds0, p0, q0, hargs, rfl, rfl, h0, r0⟩ := trodAll_cons hA
  obtain ⟨v1, vs1, d1, ds1, p1, q1, rfl, rfl, rfl, h1, r1⟩ := trodAll_cons r0
  obtain ⟨rfl, rfl, rfl⟩ := trodAll_nil r1
  obtain rfl : args = #[v0, v1] := by cases args; simp_all
  obtain ⟨rfl, rfl⟩ := trodVars_none hV
  obtain ⟨a0, rfl, rfl, rfl, w0⟩ := open_int Tryz.underlying3 (hval 0 3 v0 rfl rfl) h0
  obtain ⟨a1, rfl, rfl, rfl, w1⟩ := open_int Tryz.underlying3 (hval 1 3 v1 rfl rfl) h1
  clear hA0 hval0
  simp only [List.append_nil] at hW'
  refine (ifull_any a0 a1 W).mono fun e W' ⟨he, bel⟩ => ?_
  subst he
  exact ⟨_, rfl, _, _, _, [], _, [], hW', trodAll_mk1 (shut_bool Tryz.underlying4 _), (trodAll_cons_mk (shut_int Tryz.underlying3 w0) (trodAll_cons_mk (shut_int Tryz.underlying3 w1) trodAll_mk0)), rfl, bel.frame _, fun h => by cases h⟩

/-- The statement. -/
theorem ifull_said : Rows.IndexFullSaid :=
  OpenClaim.holds_of_wide 7 Tryz.f7 rfl rfl rfl rfl rfl rfl rfl ⟨rfl, rfl, rfl, rfl, rfl⟩ rfl rfl rfl rfl rfl (by kernel_rfl) Tryz.func7 (by kernel_rfl)
    (of_decide_eq_true (by kernel_rfl)) (by unfold Func.isWrapper; first | (rw [if_pos (by decide +kernel)]; kernel_rfl) | (rw [if_neg (by decide +kernel)]; exact ⟨rfl, rfl⟩))
    (fun os started H enc _ => ifull_lifted os started H enc)
#print axioms ifull_said
end Go.Proofs.YtchobpfdmkgnoaaGreat
