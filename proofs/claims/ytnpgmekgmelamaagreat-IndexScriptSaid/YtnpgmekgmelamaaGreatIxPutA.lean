/-
  What is proved: Put of a literal.
-/
import Derived.Test.YtnpgmekgmelamaaGreatIxChk
import Derived.Test.YtnpgmekgmelamaaGreatIxRows
import Derived.Maps.AppendAt
import Derived.Deep.AppendLies
import Derived.Deep.RegionLaw
namespace Go.Proofs.YtnpgmekgmelamaaGreat
open Go.RowKit Go.Shelf Go.Maps

theorem info_ints : (Tryz.prog.info? 3).map (fun i => (i.zero, i.size, i.bytes)) = some (some (.int .i64 0), 1, 8) := by kernel_rfl
/-- The list of a text: nil, or a row of its own. -/
theorem IdxAt.row {w : World} {x : Nat} {L : List G} {N base : Nat} {col : Nat → Col} {most bg bl bo cl co : Nat} {Fl : List UInt8 → Option Value} {ao : Int → Nat} (H : IdxAt w x L N base col most bg bl bo cl co Fl ao) (k : List UInt8) :
    ∃ (a : Option Addr) (zs : List Int) (cap : Nat), (Fl k).getD (.slice none 0 0) = .slice a zs.length cap ∧ w.ownsRow base 3 1 (.slice a zs.length cap) zs.length (zs.map (Value.int .i64)) ∧ zs.Perm (under L k) ∧ ∀ b, (Value.slice a zs.length cap).ownBlock = some b → col b = .row k := by
  cases e : Fl k with
  | none =>
    refine ⟨none, [], 0, rfl, World.ownsRow_nil _ _ _ _, ?_, fun b hb => by cases hb⟩
    have : under L k = [] := by
      unfold under
      rw [List.map_eq_nil_iff, List.filter_eq_nil_iff]
      intro g hg
      simpa using H.nol k e g hg
    rw [this]
  | some v =>
    obtain ⟨zs, g, cap, rfl, h1, h2, h3, h4⟩ := H.rows k v e
    exact ⟨some ⟨g, 0, none⟩, zs, cap, rfl, h1, h2, fun b hb => by cases hb; exact h4⟩
theorem under_len (L : List G) (k : List UInt8) : (under L k).length ≤ L.length := by
  unfold under
  rw [List.length_map]
  exact List.length_filter_le _ _
theorem putE_ok {L : List G} {i : Int} {p : ByteArray} (h : putE L i p = 0) : 0 ≤ i ∧ hasG L i = false ∧ checkN p.size = 0 ∧ L.length < 200 := by
  unfold putE at h
  split at h
  · cases h
  · rename_i h1
    split at h
    · cases h
    · rename_i h2
      split at h
      · rename_i h3; exact absurd h h3
      · rename_i h3
        split at h
        · cases h
        · rename_i h4
          exact ⟨by omega, by simpa using h2, by simpa using h3, by omega⟩

set_option maxHeartbeats 2000000 in
theorem iput_lit {w : World} {x : Nat} {L : List G} {N base : Nat} {col : Nat → Col} {most bg bl bo cl co : Nat} {Fl : List UInt8 → Option Value} {ao : Int → Nat} (H : IdxAt w x L N base col most bg bl bo cl co Fl ao)
    (i : Int) (hi : (Lit.int .i64 i).wf = true) (p : ByteArray) (f : Bool) (hE : putE L i p = 0) (k : List UInt8) (hk : keyG ⟨i, p, f⟩ = some k) (hp : p.size ≤ 1000000) (hN : N < 1000000) :
    Calls Tryz.prog 41 #[.pointer (some ⟨x, 0, none⟩), .int .i64 i, .string p, .bool f] w fun e w' => e = .returned (.int .i64 0) ∧ ∃ col', Idx w' x (insG ⟨i, p, f⟩ L) (N + 1) base col' ∧ Step col w col' w' := by
  have C0 := Lib.hid (imade_any H.obj)
  have C1 := Lib.hid (H.check i hi p)
  rw [hE] at C1
  have C2 : Hid (∀ W, Below w.heap.size w W → Calls Tryz.prog 75 #[.string p] W fun e w' => e = .returned (.string p) ∧ Below w.heap.size w w') := Lib.hid (fun W hW => (clone_any p W hp).mono fun _ _ ⟨h1, h2⟩ => ⟨h1, hW.trans (h2.mono hW.size)⟩)
  have C3 : Hid (∀ W, Calls Tryz.prog 77 #[.agg #[.int .i64 i, .string p, .bool f]] W fun e w' => e = .returned (.tuple #[.string (str k), .bool true]) ∧ Below W.heap.size W w') := Lib.hid (fun W => by
    refine (lit_any ⟨i, p, f⟩ W hp).mono ?_
    rintro e w' ⟨s, rfl, h2, h3⟩
    rw [hk] at h2 ⊢
    exact ⟨by rw [h2 k rfl]; rfl, h3⟩)
  go_enter Tryz.func41, Tryz.ntmps41
  go_wp2_with fail
  refine C0.out.mono ?_
  rintro e w0 ⟨rfl, e0⟩
  rw [e0]
  clear e0 w0
  go_wp2_with fail
  refine C1.out.mono ?_
  rintro e w1 ⟨rfl, hb1⟩
  go_wp2_with fail
  refine (C2.out _ hb1).mono ?_
  rintro e w2 ⟨rfl, hb2⟩
  go_wp2_with fail
  refine (C3.out _).mono ?_
  rintro e w3 ⟨rfl, hc3⟩
  have hz2 : (w2.alloc (.cells #[.int .i64 i, .string p, .bool f] 66)).heap.size = w2.heap.size + 1 := World.size_alloc ..
  have hg3 : w3.heap[w2.heap.size]? = some (.cells #[.int .i64 i, .string p, .bool f] 66 (0, 0)) := (hc3.block _ (by omega)).trans (World.alloc_heap_new w2 _)
  have hb3 : Below w.heap.size w w3 := (hb2.alloc hb2.size _).trans (hc3.mono (by have := hb2.size; omega))
  have H3 := H.same hb3.size (fun k hk _ => hb3.block k hk)
  have c2 := H3.obj.c2
  have c3 := H3.obj.c3
  have c3' := (H3.obj.same (W' := w3.alloc (.cells #[.int .i64 i] 3)) (Below.heap_alloc _ _ _ H3.obj.lt)).c3
  have hs2 := hb2.size
  have hs3 : w2.heap.size < w3.heap.size := by have := hc3.size; omega
  obtain ⟨hi0, hn, hck, hlen⟩ := putE_ok hE
  have hks : (str k).size ≤ maxLen := by
    unfold maxLen
    have := keyL_size ⟨i, p, f⟩
    unfold keyG at hk
    split at hk
    · injection hk with hk
      rw [str_size, ← hk]
      dsimp only at this ⊢
      omega
    · cases hk
  obtain ⟨a, zs, cap, hv, hown, hperm, hcol⟩ := H3.row k
  have hL1 := H3.lits.look (t := 106) lawS Tryz.underlying106 (zero_ints w3) (keyS hks)
  rw [str_data, show (litF Fl (.string k)) = Fl k from rfl, hv] at hL1
  have hL2 := (H3.lits.same (W' := w3.drew) rfl).look (t := 106) lawS Tryz.underlying106 (zero_ints w3.drew) (keyS hks)
  rw [str_data, show (litF Fl (.string k)) = Fl k from rfl, hv] at hL2
  have hL3 := (H3.lits.same (W' := (w3.alloc (.cells #[.int .i64 i] 3)).drew) (Below.heap_alloc _ _ _ H3.lits.lt)).look (t := 106) lawS Tryz.underlying106 (zero_ints _) (keyS hks)
  rw [str_data, show (litF Fl (.string k)) = Fl k from rfl, hv] at hL3
  have hzl : zs.length < 200 := by rw [hperm.length_eq]; exact Nat.lt_of_le_of_lt (under_len L k) hlen
  have hcl0 : col w2.heap.size = .free := by
    by_cases e : col w2.heap.size = .free
    · exact e
    · have := H.bas _ e; omega
  have o6 : ((w3.alloc (.cells #[.int .i64 i] 3)).drew).ownsRow base 3 1 (.slice a zs.length cap) zs.length (zs.map (Value.int .i64)) := World.ownsRow.alloc (w := w3) hown _
  have hbase : base ≤ w3.heap.size := by have := H3.bas x (by rw [H3.cx]; decide); omega
  have z6 : base ≤ ((w3.alloc (.cells #[.int .i64 i] 3)).drew).heap.size := by
    show base ≤ (w3.alloc (.cells #[.int .i64 i] 3)).heap.size
    rw [World.size_alloc]; omega
  have hfin : Hid (∀ gg cap2 w8, w8.ownsRow base 3 1 (.slice (some ⟨gg, 0, none⟩) (zs.length + 1) cap2) (zs.length + 1) (zs.map (Value.int .i64) ++ [.int .i64 i]) → ((w3.alloc (.cells #[.int .i64 i] 3)).drew).grownBy w8 (Value.slice a zs.length cap).ownBlock → ((Value.slice a zs.length cap).ownBlock = some gg ∨ gg = w3.heap.size + 1) →
      w8.cell? ⟨x, 3, none⟩ = some (.map (some bl)) ∧ ∃ w9, (Instr.mapUpdate 106 (.map (some bl)) (.string (str k)) (.slice (some ⟨gg, 0, none⟩) (zs.length + 1) cap2)).run Tryz.prog w8 = .ok () w9 ∧ w9.cell? ⟨x, 2, none⟩ = some (.map (some bg)) ∧ (w9.cell? ⟨w2.heap.size, 0, none⟩ = some (.int .i64 i) ∧ w9.cell? ⟨w2.heap.size, 1, none⟩ = some (.string p) ∧ w9.cell? ⟨w2.heap.size, 2, none⟩ = some (.bool f)) ∧
        ∃ w10, (Instr.mapUpdate 105 (.map (some bg)) (.int .i64 i) (.agg #[.int .i64 i, .string p, .bool f])).run Tryz.prog w9.drew = .ok () w10 ∧ Hid (∃ col', Idx w10 x (insG ⟨i, p, f⟩ L) (N + 1) base col' ∧ Step col w col' w10)) := Lib.hid (fun gg cap2 w8 hown8 hg8 hat8 => by
    have hW1 : Below w3.heap.size w3 ((w3.alloc (.cells #[.int .i64 i] 3)).drew) := ((Below.refl _ w3).alloc (Nat.le_refl _) _).drew
    obtain ⟨w9, hr9, col', cl', Fl', hM9, hS9⟩ := H3.mid.litsPut ⟨i, p, f⟩ hk (by rw [str_size] at hks; exact hks) hN hperm hcol hW1 hown8 hg8 (hat8.imp id (fun e => by omega))
    have hM9' := (hM9.othersSkip H3.srt ⟨i, p, f⟩ hn hk).drew
    obtain ⟨w10, hr10, hM10, hS10⟩ := hM9'.globsPut H3.srt ⟨i, p, f⟩ hi hn hlen
    have hg9 : w9.heap[w2.heap.size]? = some (.cells #[.int .i64 i, .string p, .bool f] 66 (0, 0)) := (hS9.keep _ hs3 hcl0).trans hg3
    have hx8 : w8.heap[x]? = w3.heap[x]? := (hg8.block x (by have := hW1.size; have := H3.obj.lt; omega) (fun e => by have := hcol x e.symm; rw [H3.cx] at this; cases this)).trans (hW1.block x H3.obj.lt)
    refine ⟨(H3.obj.same hx8).c3, w9, hr9, hM9.obj.c2, ⟨by simp [World.cell?, hg9], by simp [World.cell?, hg9], by simp [World.cell?, hg9]⟩, w10, hr10, Lib.hid ⟨col', ⟨most, bg, bl, bo, cl', co, Fl', ao, hM10.idx H3.mst (insG_sorted _ L H3.srt hn) ?_ ?_ (by rw [insG_len]; omega)⟩, (Step.below hb3).trans ((hS9.trans (Step.below (Below.refl _ _).drew)).trans hS10)⟩⟩
    · intro g hg
      rcases insG_mem.1 hg with rfl | hg
      · exact ⟨hi, hi0⟩
      · exact H3.ids g hg
    · intro g hg
      rcases insG_mem.1 hg with rfl | hg
      · exact hck
      · exact H3.chk g hg)
  obtain ⟨i0, hi0', hi1, hi2, hi3⟩ := info_parts info_ints
  obtain ⟨xs, hxs⟩ : ∃ xs, zs.map (Value.int .i64) = xs := ⟨_, rfl⟩
  obtain ⟨n, hn2⟩ : ∃ n, zs.length = n := ⟨_, rfl⟩
  rw [hxs, hn2] at o6 hfin
  rw [hn2] at hL1 hL2 hL3 hzl
  clear hc3 hb1 hb2 C0 C1 C2 C3 hz2 H H3 hi hE hk hg3 hb3 hs2 hi0 hn hck hks hv hown hperm hcol hcl0 hlen hn2 hxs hp hN
  go_wp2_with fail
  go_region_law (first
    | (refine step_append_lies _ (by rfl) _ _ 22 (by rfl) base 3 i0 (.int .i64 0) 1 8 Tryz.underlying22 hi0' hi1 hi2 hi3 rfl (by decide) (.slice a n cap) n xs (by rfl) o6 ⟨w3.heap.size, 0, none⟩ 1 1 [.int .i64 i] (by rfl) (by rfl) (cell_one_new _ _ _) (by intro u hu; simp at hu; rw [hu]; rfl) (by decide) (by unfold maxLen; omega) (by omega) z6 (w3.heap.size + 1) (by simp) ?_; intro gg cap2 w8 hown8 hg8 hat8 hlt8; obtain ⟨k1, w9, hr9, k2, ⟨k3, k4, k5⟩, w10, hr10, hend⟩ := hfin.out gg cap2 w8 hown8 hg8 hat8; clear hown8 hg8 hat8 hlt8))
  all_goals
    go_wp2
    go_region
    go_wp2
    go_ret
    exact ⟨rfl, hend.out⟩
end Go.Proofs.YtnpgmekgmelamaaGreat
