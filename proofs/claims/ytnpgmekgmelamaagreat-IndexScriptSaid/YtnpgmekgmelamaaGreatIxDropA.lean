/-
  What is proved: what dropLiteral does.
-/
import Derived.Test.YtnpgmekgmelamaaGreatIxChk
import Derived.Test.YtnpgmekgmelamaaGreatIxRows
import Derived.Deep.AppendLies
import Derived.Deep.RegionLaw
namespace Go.Proofs.YtnpgmekgmelamaaGreat
open Go.RowKit Go.Shelf Go.Maps Go.Sort

def encI : Int → Value := Value.int .i64
theorem is_any (B : Nat) (i j : Int) (w : World) (h : w.cell? ⟨B, 0, none⟩ = some (.int .i64 i)) : Calls Tryz.prog 106 #[.int .i64 j, .pointer (some ⟨B, 0, none⟩)] w fun e w' => e = .returned (.bool (j == i)) ∧ w' = w := by
  go_enter Tryz.func106, Tryz.ntmps106
  go_wp2
  go_ret
  exact ⟨rfl, rfl⟩

theorem delete_eq {P : Program} {w w' : World} {ops : Array Oper} {rest : List Oper} {o : Oper} {a : Act} {Q : Exit → Act → World → Prop} (hg : o.guard = none) (m x : Operand) (t k : TypeId) (hop : o.op = Op.call { callee := Callee.builtin Builtin.delete, args := #[m, x], argTypes := #[t, k] })
    (mv key : Value) (hm : a.eval m = mv) (hx : a.eval x = key) (hrun : (Builtin.delete_ #[t, k] o.type #[mv, key]).run P w = .ok (.tuple #[]) w') (hK : wpList P ops Q rest (a.put o.dst (.tuple #[])) w') : wpList P ops Q (o :: rest) a w := by
  refine wpList_plain hg fun K' hK' => ?_
  unfold Oper.wp
  simp [execOp, hop, resolve, invoke, builtin, hm, hx, hrun, Result.andThen]
  exact hK' _ _ hK
theorem row_shrink {w : World} {base n m g cap : Nat} {t : TypeId} {xs : List Value} (h : w.ownsRow base t 1 (.slice (some ⟨g, 0, none⟩) n cap) n xs) (hm : m ≤ n) : w.ownsRow base t 1 (.slice (some ⟨g, 0, none⟩) m cap) m (xs.take m) := by
  refine ⟨by rw [List.length_take, h.1]; omega, ?_⟩
  rcases h.2 with ⟨h1, _⟩ | ⟨g', cap', cur, h1, h2, h3, h4, h5, h6, h7⟩
  · cases h1
  · injection h1 with h1 _ hc
    injection h1 with h1
    injection h1 with h1
    subst h1 hc
    refine .inr ⟨g, cap, cur, rfl, h2, h3, by omega, h5, h6, ?_⟩
    rw [← h7, List.take_take]
    congr 1
    omega
theorem zero_i (w : World) : (zeroValue 3).run Tryz.prog w = .ok (Value.int .i64 0) w := by kernel_rfl
theorem one_i : Go.Proofs.OneCell (Value.int .i64) := fun _ => rfl

/-- slices.DeleteFunc, of a list of the index. -/
theorem del_row {W : World} {base b cap B : Nat} {i : Int} {zs : List Int} (hown : W.ownsRow base 3 1 (.slice (some ⟨b, 0, none⟩) zs.length cap) zs.length (zs.map (Value.int .i64))) (hB : W.cell? ⟨B, 0, none⟩ = some (.int .i64 i)) (hne : B ≠ b) (hBl : B < W.heap.size) :
    Calls Tryz.prog 105 #[.slice (some ⟨b, 0, none⟩) zs.length cap, .func (.func 106) #[] #[.pointer (some ⟨B, 0, none⟩)]] W fun e w8 => e = .returned (.slice (some ⟨b, 0, none⟩) (zs.filter (· != i)).length cap) ∧ W.grownBy w8 (some b) ∧
      w8.ownsRow base 3 1 (.slice (some ⟨b, 0, none⟩) (zs.filter (· != i)).length cap) (zs.filter (· != i)).length ((zs.filter (· != i)).map (Value.int .i64)) := by
  rcases hown.2 with ⟨h1, _⟩ | ⟨g', cap', cur, h1, h2, h3, h4, h5, h6, h7⟩
  · cases h1
  injection h1 with h1 _ hc
  injection h1 with h1
  injection h1 with h1
  subst h1 hc
  have eg : ∀ args w, (callFunc 106 args).run Tryz.prog w = .ok (.enter 106 args) w := enters_of Tryz.func106 (by kernel_rfl) rfl
  have hH : Holds (Value.int .i64) W b 0 zs.toArray := holds_of_blockI h3 (by simpa using h7)
  have gives : ∀ (W' : World) (j : Int), W'.cell? ⟨B, 0, none⟩ = some (.int .i64 i) → FnGives Tryz.prog 106 #[.pointer (some ⟨B, 0, none⟩)] #[.int .i64 j] (.bool (j == i)) W' := fun W' j hc => (is_any B i j W' hc).mono (fun _ _ ⟨e1, e2⟩ => ⟨e1, 0, e2⟩)
  have C := Tryz.slices_DeleteFunc (Value.int .i64) one_i (fun j => j == i) 106 #[.pointer (some ⟨B, 0, none⟩)] eg 0 zero_i b 0 cap zs.toArray W (fun W' j hb => gives W' j (by rw [World.cell?_of_block (w := W) (hb.block B hBl)]; exact hB))
    (fun n os dk j hd => gives _ j (by
      rw [World.cell?_of_block (w := W)]
      · exact hB
      · unfold sortWorld
        rw [heap_grow_old _ _ (by simpa [size_putRow] using hBl)]
        simp [putRow, mapBlock, Sort.ahead, Array.getElem?_modify, Ne.symm hne]))
    hH (by simp; unfold maxLen at h5; omega) (by simpa using h4)
  refine C.mono ?_
  rintro e w8 ⟨rfl, q, rfl⟩
  have hl : ((zs.filter (· != i)) ++ List.replicate (zs.length - (zs.filter (· != i)).length) 0).length = zs.length := by
    have := List.length_filter_le (· != i) zs
    simp
    omega
  have hr := ownsRow_sortedI (n := q) (os := #[]) hl h2 h3 h4 h5 h6
  have hg := grownBy_sortedI (w := W) (g := b) (n := q) (os := #[]) ((zs.filter (· != i)) ++ List.replicate (zs.length - (zs.filter (· != i)).length) 0).toArray
  have e0 : ∀ w : World, grow w #[] = w := fun w => by simp [grow]
  rw [e0] at hr hg
  have hr2 := row_shrink hr (m := (zs.filter (· != i)).length) (List.length_filter_le _ _)
  rw [List.map_append, List.take_append_of_le_length (by simp), List.take_of_length_le (by simp)] at hr2
  exact ⟨rfl, hg, hr2⟩

set_option maxHeartbeats 2000000 in
theorem idropLit {w : World} {x : Nat} {L : List G} {N base : Nat} {col : Nat → Col} {most bg bl bo cl co : Nat} {Fl : List UInt8 → Option Value} {ao : Int → Nat} (H : IdxAt w x L N base col most bg bl bo cl co Fl ao) (g : G) (hm : g ∈ L) (k : List UInt8) (hk : keyG g = some k) (hN : N < 1000000) :
    Calls Tryz.prog 78 #[.pointer (some ⟨x, 0, none⟩), .string (str k), .int .i64 g.id] w fun e w' => e = .returned (.tuple #[]) ∧ ∃ cl' Fl', Mid w' x L (delG g.id L) L (N + 1) base col most bg bl bo cl' co Fl' ao ∧ Step col w col w' := by
  have hks : k.length ≤ maxLen := by
    unfold maxLen
    have h1 := keyL_size g
    have h2 := (check_pos (H.chk g hm)).2
    unfold keyG at hk
    split at hk
    · have := Option.some.inj hk
      rw [← this]
      omega
    · cases hk
  obtain ⟨W, hW⟩ : ∃ W, w.alloc (.cells #[.int .i64 g.id] 3) = W := ⟨_, rfl⟩
  have hb1 : Below w.heap.size w W := by rw [← hW]; exact (Below.refl _ w).alloc (Nat.le_refl _) _
  have hz1 : W.heap.size = w.heap.size + 1 := by rw [← hW]; exact World.size_alloc ..
  have hcB : W.cell? ⟨w.heap.size, 0, none⟩ = some (.int .i64 g.id) := by rw [← hW]; simp
  have H1 := H.same hb1.size (fun k hk _ => hb1.block k hk)
  have c3 := H1.obj.c3
  cases hv : Fl k with
  | none => exact absurd hk (H.nol k hv g hm)
  | some v =>
    obtain ⟨zs, b, cap, rfl, hown, hperm, hne, hcol⟩ := H1.rows k _ hv
    have hL := H1.lits.look (t := 106) lawS Tryz.underlying106 (zero_ints W) (keyStr hks)
    rw [show (litF Fl (.string k)) = Fl k from rfl, hv] at hL
    replace hL : (Instr.lookup 106 (.map (some bl)) (.string (str k)) false).run Tryz.prog W = .ok (.slice (some ⟨b, 0, none⟩) zs.length cap) W := hL
    have hbB : w.heap.size ≠ b := fun e => by
      have := H.bas b (by rw [hcol]; exact fun e => by cases e)
      omega
    have C := Lib.hid (del_row hown hcB hbB (by omega))
    have hcx : ∀ w8, W.grownBy w8 (some b) → w8.cell? ⟨x, 3, none⟩ = some (.map (some bl)) := fun w8 hg => (H1.obj.same (hg.block x H1.obj.lt (fun e => by
      have : x = b := by injection e
      rw [← this, H1.cx] at hcol
      cases hcol))).c3
    have hA := Lib.hid fun (w8 : World) (hg : W.grownBy w8 (some b)) hown8 (hnn : zs.filter (· != g.id) ≠ []) => H1.mid.litsCut (cap := cap) H1.srt g hm hk hks hN hperm hcol hg hown8 hnn
    have hB := Lib.hid fun (w8 : World) (hg : W.grownBy w8 (some b)) (hnn : zs.filter (· != g.id) = []) => H1.mid.litsGone H1.srt g hm hk hks hperm hcol hg hnn 0
    have hst := Lib.hid (Step.below (col := col) hb1)
    obtain ⟨zs', hzs'⟩ : ∃ zs', zs.filter (· != g.id) = zs' := ⟨_, rfl⟩
    rw [hzs'] at C hA hB
    obtain ⟨n, hn⟩ : ∃ n, zs'.length = n := ⟨_, rfl⟩
    obtain ⟨i, hi⟩ : ∃ i, g.id = i := ⟨_, rfl⟩
    rw [hn] at C
    rw [hi] at hW
    rw [hi]
    obtain ⟨n0, hn0⟩ : ∃ n0, zs.length = n0 := ⟨_, rfl⟩
    rw [hn0] at C hL
    subst hW
    by_cases h0 : n = 0
    · have hnil : zs' = [] := List.eq_nil_of_length_eq_zero (by omega)
      subst h0
      clear hA H H1 hown hperm hcol hne hzs' hcB hbB hz1 hb1 hv hk hm hn hn0 hks hN
      go_enter Tryz.func78, Tryz.ntmps78
      go_wp2_with fail
      refine C.out.mono ?_
      rintro e w8 ⟨rfl, hg8, _⟩
      have c3b := hcx w8 hg8
      obtain ⟨w9, hr9, cl', Fl', hM9, hS9⟩ := hB.out w8 hg8 hnil
      clear hB hcx hg8 C
      go_wp2_with (at_delete; refine delete_eq rfl _ _ _ _ rfl _ _ rfl rfl hr9 ?_)
      first | go_end0 | (refine bodyPost_ret (results_none rfl _ _ _) rfl ?_)
      rw [← hi]
      exact ⟨rfl, cl', Fl', hM9, hst.out.trans hS9⟩
    · have hnil : zs' ≠ [] := fun e => h0 (by rw [← hn, e]; rfl)
      have hpos : (0 : Int) < (n : Int) := by omega
      have hnz : ((n : Int) == 0) = false := by simp; omega
      clear hB H H1 hown hperm hcol hne hzs' hcB hbB hz1 hb1 hv hk hm hn0 hks hN
      go_enter Tryz.func78, Tryz.ntmps78
      go_wp2_with fail
      refine C.out.mono ?_
      rintro e w8 ⟨rfl, hg8, hown8⟩
      have c3b := hcx w8 hg8
      obtain ⟨w9, hr9, cl', Fl', hM9, hS9⟩ := hA.out w8 hg8 (by rw [hn]; exact hown8) hnil
      rw [hn] at hr9
      clear hA hcx hg8 C hown8 hn
      clear hnil h0
      go_wp2
      first | go_end0 | (refine bodyPost_ret (results_none rfl _ _ _) rfl ?_)
      rw [← hi]
      exact ⟨rfl, cl', Fl', hM9, hst.out.trans hS9⟩
end Go.Proofs.YtnpgmekgmelamaaGreat
