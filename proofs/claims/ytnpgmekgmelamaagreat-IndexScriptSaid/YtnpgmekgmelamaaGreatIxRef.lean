/-
  What is proved: the reference's index in memory, and what its at, Has and Match return.
-/
import Derived.Test.YtnpgmekgmelamaaGreatIxLawD
import Derived.Test.YtnpgmekgmelamaaGreatGlRefM
import Derived.Deep.RegionHeld3
namespace Go.Proofs.YtnpgmekgmelamaaGreat
open Go.RowKit Go.Shelf Go.Maps

/-- Where a number stands, or would stand. -/
def plc (i : Int) : List G → Nat
  | [] => 0
  | g :: r => if g.id < i then plc i r + 1 else 0
theorem plc_le (i : Int) : ∀ L : List G, plc i L ≤ L.length
  | [] => Nat.le_refl _
  | g :: r => by
    unfold plc
    split
    · have := plc_le i r; rw [List.length_cons]; omega
    · exact Nat.zero_le _
theorem plc_lt (i : Int) : ∀ (L : List G) (k : Nat) (g : G), L[k]? = some g → k < plc i L → g.id < i
  | [], k, g, h, _ => by simp at h
  | h :: r, 0, g, e, hk => by
    have e : h = g := by simpa using e
    subst e
    unfold plc at hk
    split at hk
    · assumption
    · exact absurd hk (Nat.lt_irrefl _)
  | h :: r, k + 1, g, e, hk => by
    unfold plc at hk
    split at hk
    · exact plc_lt i r k g (by simpa using e) (by omega)
    · exact absurd hk (by omega)
theorem plc_at (i : Int) : ∀ (L : List G) (g : G), L[plc i L]? = some g → ¬ g.id < i
  | [], g, h => by simp at h
  | h :: r, g, e => by
    unfold plc at e
    split at e
    · exact plc_at i r g (by simpa using e)
    · rename_i h1
      have e : h = g := by simpa using e
      subst e; exact h1
theorem plc_ge (i : Int) {L : List G} {k : Nat} (h : ∀ (j : Nat) g, L[j]? = some g → j < k → g.id < i) (hk : k ≤ L.length) : k ≤ plc i L := by
  by_cases e : k ≤ plc i L
  · exact e
  · have hlt : plc i L < L.length := by omega
    exact absurd (h _ _ (List.getElem?_eq_getElem hlt) (by omega)) (plc_at i L _ (List.getElem?_eq_getElem hlt))
theorem ins_plc (g : G) : ∀ L : List G, insG g L = L.take (plc g.id L) ++ g :: L.drop (plc g.id L)
  | [] => rfl
  | h :: r => by
    unfold insG plc
    split
    · rw [ins_plc g r]; rfl
    · rfl
theorem has_plc {L : List G} (hs : Sorted L) (i : Int) : hasG L i = ((L[plc i L]?).map (·.id) == some i) := by
  rw [Bool.eq_iff_iff, hasG_iff]
  constructor
  · rintro ⟨g, hg, rfl⟩
    obtain ⟨k, hk, e⟩ := List.getElem_of_mem hg
    have h1 : k ≤ plc g.id L := plc_ge _ (fun j x hx hj => by
      have hjl := (List.getElem?_eq_some_iff.1 hx).1
      have := List.pairwise_iff_getElem.1 hs j k hjl hk hj
      rw [(List.getElem?_eq_some_iff.1 hx).2, e] at this
      exact this) (by omega)
    have h2 : plc g.id L = k := by
      by_cases e2 : plc g.id L = k
      · exact e2
      · exact absurd (plc_lt g.id L k g (by rw [List.getElem?_eq_getElem hk, e]) (by omega)) (by omega)
    rw [h2, List.getElem?_eq_getElem hk, e]
    simp
  · intro h
    cases e : L[plc i L]? with
    | none => rw [e] at h; simp at h
    | some g => rw [e] at h; exact ⟨g, List.mem_of_getElem? e, by simpa using h⟩
theorem del_plc {i : Int} : ∀ {L : List G}, Sorted L → hasG L i = true → delG i L = L.take (plc i L) ++ L.drop (plc i L + 1)
  | [], _, h => by simp [hasG] at h
  | g :: r, hs, h => by
    have hs1 := (List.pairwise_cons.1 hs).1
    have hs2 := (List.pairwise_cons.1 hs).2
    unfold plc
    by_cases hlt : g.id < i
    · rw [if_pos hlt]
      have hr : hasG r i = true := by
        obtain ⟨x, hx, e⟩ := hasG_iff.1 h
        rcases List.mem_cons.1 hx with rfl | hx
        · omega
        · exact hasG_iff.2 ⟨x, hx, e⟩
      have := del_plc hs2 hr
      show List.filter _ (g :: r) = _
      rw [List.filter_cons_of_pos (by simp; omega)]
      unfold delG at this
      rw [this]
      rfl
    · rw [if_neg hlt]
      obtain ⟨x, hx, e⟩ := hasG_iff.1 h
      have hg : g.id = i := by
        rcases List.mem_cons.1 hx with rfl | hx
        · exact e
        · have := hs1 x hx; omega
      show List.filter _ (g :: r) = _
      rw [List.filter_cons_of_neg (by simp [hg])]
      show _ = [] ++ r
      rw [List.nil_append]
      refine List.filter_eq_self.2 fun y hy => ?_
      have := hs1 y hy
      simp; omega

/-- The reference's index in memory. -/
structure RefAt (W : World) (o : Nat) (L : List G) (B : Nat) (v : Value) : Prop where
  cell : W.heap[o]? = some (.cells #[v] 62 (0, 0))
  row : OwnG W B v L
  ne : v.ownBlock ≠ some o
  ge : B ≤ o
theorem RefAt.lt {W : World} {o : Nat} {L : List G} {B : Nat} {v : Value} (h : RefAt W o L B v) : o < W.heap.size := (Array.getElem?_eq_some_iff.1 h.cell).1
theorem RefAt.below {W W' : World} {o : Nat} {L : List G} {B : Nat} {v : Value} (h : RefAt W o L B v) (hb : Below W.heap.size W W') : RefAt W' o L B v := ⟨(hb.block o h.lt).trans h.cell, h.row.later hb, h.ne, h.ge⟩
theorem RefAt.c0 {W : World} {o : Nat} {L : List G} {B : Nat} {v : Value} (h : RefAt W o L B v) : W.cell? ⟨o, 0, none⟩ = some v := by simp [World.cell?, h.cell]
/-- The cells of its globs, in any later world. -/
theorem RefAt.cells {W : World} {o : Nat} {L : List G} {B : Nat} {v : Value} (h : RefAt W o L B v) : ∃ a cap, v = .slice a L.length cap ∧ ∃ gb go, (0 < L.length → a = some ⟨gb, go, none⟩) ∧ ∀ W', Below W.heap.size W W' → W'.cell? ⟨o, 0, none⟩ = some (.slice a L.length cap) ∧ ∀ k (hk : k < L.length), W'.cell? ⟨gb, go + k * 3, none⟩ = some (.int .i64 L[k].id) ∧ W'.cell? ⟨gb, go + k * 3 + 1, none⟩ = some (.string L[k].p) ∧ W'.cell? ⟨gb, go + k * 3 + 2, none⟩ = some (.bool L[k].f) := by
  obtain ⟨ga, gc, rfl, hgc⟩ := h.row.reads
  refine ⟨ga, gc, rfl, ?_⟩
  by_cases h0 : 0 < L.length
  · obtain ⟨gb, go, e1, _⟩ := hgc 0 L[0] (List.getElem?_eq_getElem h0)
    refine ⟨gb, go, fun _ => e1, fun W' hW => ⟨(h.below hW).c0, fun k hk => ?_⟩⟩
    obtain ⟨gb', go', e2, hlt, hc⟩ := hgc k L[k] (List.getElem?_eq_getElem hk)
    rw [e1] at e2
    injection e2 with e2
    injection e2 with e2 e3
    subst e2 e3
    have hc' : ∀ i, i < 3 → W'.cell? ⟨gb, go + k * 3 + i, none⟩ = (gCells L[k])[i]? := fun i hi => by rw [World.cell?_of_block (w := W) (hW.block gb hlt)]; exact hc i hi
    exact ⟨hc' 0 (by decide), hc' 1 (by decide), hc' 2 (by decide)⟩
  · exact ⟨0, 0, fun h => absurd h h0, fun W' hW => ⟨(h.below hW).c0, fun k hk => absurd hk (by omega)⟩⟩

set_option maxRecDepth 100000 in
set_option maxHeartbeats 2000000 in
theorem rat_any {W : World} {o : Nat} {L : List G} {B : Nat} {v : Value} (h : RefAt W o L B v) (hlen : L.length ≤ 200) (i : Int) :
    Calls Tryz.prog 67 #[.pointer (some ⟨o, 0, none⟩), .int .i64 i] W fun e w' => e = .returned (.int .i64 (plc i L : Int)) ∧ w' = W := by
  obtain ⟨a, cap, rfl, gb, go, hga, hc⟩ := h.cells
  have HC := Lib.hid (hc W (Below.refl _ _))
  have c0 := HC.out.1
  clear hc h
  go_enter Tryz.func67, Tryz.ntmps67
  go_wp2_with fail
  go_loopg [5] L.length (fun gk s5 wr => ∃ k : Nat, k + gk = L.length ∧ s5 = .int .i64 k ∧ Hid (∀ (j : Nat) g, L[j]? = some g → j < k → g.id < i) ∧ wr = W)
  case atStart => exact ⟨0, by omega, rfl, Lib.hid (fun j g _ hj => absurd hj (Nat.not_lt_zero j)), rfl⟩
  case round =>
    obtain ⟨k, hkg, rfl, HI, rfl⟩ := hrel
    by_cases hk : k < L.length
    · have hkz : (k : Int) < (L.length : Int) := by omega
      have hd : decide ((k : Int) < (L.length : Int)) = true := decide_eq_true hkz
      have hga' := hga (by omega)
      subst hga'
      have c1 := (HC.out.2 k hk).1
      obtain ⟨gi, hgi⟩ : ∃ gi, L[k].id = gi := ⟨_, rfl⟩
      rw [hgi] at c1
      by_cases hlt : gi < i
      · have HN : Hid (∀ (j : Nat) g, L[j]? = some g → j < k + 1 → g.id < i) := Lib.hid (fun j g hj hjk => by
          by_cases e : j = k
          · subst e
            rw [List.getElem?_eq_getElem hk] at hj
            injection hj with hj
            rw [← hj, hgi]; exact hlt
          · exact HI.out j g hj (by omega))
        have hd2 : decide (gi < i) = true := decide_eq_true hlt
        clear hgi
        go_wp2
        go_roundg (L.length - (k + 1))
        case measure => omega
        case rel => exact ⟨k + 1, by omega, by go_num, HN, rfl⟩
      · have HE : Hid (plc i L = k) := Lib.hid (by
          have h1 := plc_ge i HI.out (by omega)
          by_cases e : plc i L = k
          · exact e
          · exact absurd (plc_lt i L k L[k] (List.getElem?_eq_getElem hk) (by omega)) (by rw [hgi]; exact hlt))
        have hd2 : decide (gi < i) = false := decide_eq_false hlt
        clear hgi
        go_wp2
        go_ret
        exact ⟨by rw [HE.out]; first | done | rfl, rfl⟩
    · have hd : decide ((k : Int) < (L.length : Int)) = false := decide_eq_false (by omega)
      have hkz : ¬ (k : Int) < (L.length : Int) := by omega
      have HE : Hid (plc i L = k) := Lib.hid (by
        have h1 := plc_ge i HI.out (by omega)
        have := plc_le i L
        omega)
      go_wp2
      go_ret
      exact ⟨by rw [HE.out]; first | done | rfl, rfl⟩

set_option maxRecDepth 100000 in
set_option maxHeartbeats 2000000 in
theorem rhas_any {W : World} {o : Nat} {L : List G} {B : Nat} {v : Value} (h : RefAt W o L B v) (hs : Sorted L) (hlen : L.length ≤ 200) (i : Int) :
    Calls Tryz.prog 38 #[.pointer (some ⟨o, 0, none⟩), .int .i64 i] W fun e w' => e = .returned (.bool (hasG L i)) ∧ w' = W := by
  have C := Lib.hid (rat_any h hlen i)
  have HP := Lib.hid (has_plc hs i)
  have hle := plc_le i L
  obtain ⟨k, hk⟩ : ∃ k, plc i L = k := ⟨_, rfl⟩
  rw [hk] at C HP hle
  obtain ⟨a, cap, rfl, gb, go, hga, hc⟩ := h.cells
  have HC := Lib.hid (hc W (Below.refl _ _))
  have c0 := HC.out.1
  obtain ⟨b, hb⟩ : ∃ b, hasG L i = b := ⟨_, rfl⟩
  rw [hb] at HP
  rw [hb]
  clear hc h hb hk
  go_enter Tryz.func38, Tryz.ntmps38
  go_wp2_with fail
  refine C.out.mono ?_
  rintro e w' ⟨rfl, rfl⟩
  by_cases hkl : k < L.length
  · have hkz : (k : Int) < (L.length : Int) := by omega
    have hd : decide ((k : Int) < (L.length : Int)) = true := decide_eq_true hkz
    have hga' := hga (by omega)
    subst hga'
    have c1 := (HC.out.2 k hkl).1
    obtain ⟨gi, hgi⟩ : ∃ gi, L[k].id = gi := ⟨_, rfl⟩
    rw [hgi] at c1
    have HB : Hid (b = (gi == i)) := Lib.hid (by rw [HP.out, List.getElem?_eq_getElem hkl, Option.map_some, hgi]; rfl)
    clear hgi
    go_wp2
    go_ret
    exact ⟨by rw [HB.out]; first | done | rfl, rfl⟩
  · have hd : decide ((k : Int) < (L.length : Int)) = false := decide_eq_false (by omega)
    have hkz : ¬ (k : Int) < (L.length : Int) := by omega
    have HB : Hid (b = false) := Lib.hid (by rw [HP.out, List.getElem?_eq_none (by omega)]; rfl)
    go_wp2
    go_ret
    exact ⟨by rw [HB.out]; first | done | rfl, rfl⟩

set_option maxRecDepth 100000 in
set_option maxHeartbeats 4000000 in
theorem rmatch_any {W : World} {o : Nat} {L : List G} {B : Nat} {v : Value} (h : RefAt W o L B v) (hlen : L.length ≤ 200) (hp : ∀ g, g ∈ L → g.p.size ≤ 1000000) (t : ByteArray) (ht : t.size ≤ 1000000) :
    Calls Tryz.prog 35 #[.pointer (some ⟨o, 0, none⟩), .string t] W fun e w' => ∃ v', e = .returned v' ∧ OwnI w' W.heap.size v' ((L.filter (mG t.data.toList)).map (·.id)) ∧ Below W.heap.size W w' := by
  obtain ⟨a, cap, rfl, gb, go, hga, hc⟩ := h.cells
  have HC := Lib.hid hc
  have HPL : Hid (∀ k (hk : k < L.length), L[k].p.size ≤ 1000000) := Lib.hid (fun k hk => hp _ (List.getElem_mem hk))
  have HPT := Lib.hid ht
  clear hc h hp ht
  go_enter Tryz.func35, Tryz.ntmps35
  go_wp2_with fail
  go_loopg [6, 5] L.length (fun gk s6 s5 wr => ∃ k : Nat, k + gk = L.length ∧ s6 = .int .i64 k ∧ Hid (OwnI wr W.heap.size s5 (((L.take k).filter (mG t.data.toList)).map (·.id))) ∧ Hid (Below W.heap.size W wr))
  case atStart => exact ⟨0, by omega, rfl, Lib.hid (World.ownsRow_nil _ _ _ _), Lib.hid (Below.refl _ _)⟩
  case round =>
    obtain ⟨k, hkg, rfl, HO, HJ⟩ := hrel
    have c0 := (HC.out wr HJ.out).1
    by_cases hk : k < L.length
    · have hkz : (k : Int) < (L.length : Int) := by omega
      have hga' := hga (by omega)
      subst hga'
      have HTK : Hid (∀ m, mG t.data.toList L[k] = m → (((L.take (k + 1)).filter (mG t.data.toList)).map (·.id)) = (((L.take k).filter (mG t.data.toList)).map (·.id)) ++ if m then [L[k].id] else []) := Lib.hid (fun m hm => by
        rw [List.take_add_one, List.getElem?_eq_getElem hk, List.filter_append, List.map_append, ← hm]
        cases h : mG t.data.toList L[k] <;> simp [h])
      have HCJ := Lib.hid (fun W' (hW : Below W.heap.size W W') => (show W'.cell? ⟨o, 0, none⟩ = some (.slice (some ⟨gb, go, none⟩) L.length cap) ∧ _ from ⟨(HC.out W' hW).1, (HC.out W' hW).2 k hk⟩))
      have HPK := HPL.out k hk
      have CG : Hid (∀ W', Below W.heap.size W W' → Calls Tryz.prog 73 #[.string L[k].p, .string t, .bool L[k].f] W' fun e w' => e = .returned (.bool (mG t.data.toList L[k])) ∧ Below W'.heap.size W' w') := Lib.hid (fun W' _ => refMatch L[k].p t L[k].f W' HPK HPT.out)
      obtain ⟨m, hm⟩ : ∃ m, mG t.data.toList L[k] = m := ⟨_, rfl⟩
      have HTM := Lib.hid (HTK.out m hm)
      rw [hm] at CG
      obtain ⟨⟨gi, gp, gf⟩, hgk⟩ : ∃ y, L[k] = y := ⟨_, rfl⟩
      rw [hgk] at HCJ CG HTM
      dsimp only at HCJ CG HTM
      clear hm hgk HPK HTK
      have hJd := HJ.out.drew
      go_upto_region 5 with fail
      go_region_held3 (fun w' => w'.cell? ⟨o, 0, none⟩ = some (.slice (some ⟨gb, go, none⟩) L.length cap) ∧ w'.cell? ⟨gb, go + k * 3, none⟩ = some (.int .i64 gi) ∧ w'.cell? ⟨gb, go + k * 3 + 1, none⟩ = some (.string gp) ∧ w'.cell? ⟨gb, go + k * 3 + 2, none⟩ = some (.bool gf)) (first | exact HCJ.out _ (by assumption))
        (first
        | (go_at_call 73; refine (CG.out _ (by assumption)).mono ?_; rintro e w6 ⟨rfl, hb6⟩; have hJ6 := hJd.trans (hb6.mono hJd.size)))
      all_goals
        have HO6 : Hid (OwnI w6 W.heap.size u5 (((L.take k).filter (mG t.data.toList)).map (·.id))) := Lib.hid ((HO.out.later (Below.refl _ _).drew).later hb6)
        have HJ6 := Lib.hid hJ6
        clear hb6 hJ6 hJd HO HJ
        cases m with
        | true =>
          obtain ⟨k0, k1, k2, k3⟩ := HCJ.out _ HJ6.out
          have HB7 : Hid (Below W.heap.size W (w6.alloc (.cells #[.int .i64 gi] 3))) := Lib.hid (HJ6.out.alloc HJ6.out.size _)
          have HO7 : Hid (OwnI (w6.alloc (.cells #[.int .i64 gi] 3)) W.heap.size u5 (((L.take k).filter (mG t.data.toList)).map (·.id))) := Lib.hid (World.ownsRow.alloc HO6.out _)
          have HLN : Hid ((((L.take k).filter (mG t.data.toList)).map (·.id)).length + 1 ≤ 3000000) := Lib.hid (by
            rw [List.length_map]
            have := List.length_filter_le (mG t.data.toList) (L.take k)
            rw [List.length_take] at this
            omega)
          have HI7 := Lib.hid (ints_lit1 w6 gi 3)
          clear HCJ c0
          go_wp2_with (at_builtin; refine appI W.heap.size HO7.out HI7.out HLN.out HB7.out.size rfl _ _ rfl rfl rfl ?_; intro v8 w8 ho8 hg8)
          have hJ8 := below_appI HB7.out HO7.out HB7.out.size hg8
          rw [← show (((L.take (k + 1)).filter (mG t.data.toList)).map (·.id)) = (((L.take k).filter (mG t.data.toList)).map (·.id)) ++ [gi] from HTM.out] at ho8
          go_roundg (L.length - (k + 1))
          case measure => omega
          case rel => exact ⟨k + 1, by omega, by go_num, Lib.hid ho8, Lib.hid hJ8⟩
        | false =>
          have ho8 := HO6.out
          rw [← (show (((L.take (k + 1)).filter (mG t.data.toList)).map (·.id)) = (((L.take k).filter (mG t.data.toList)).map (·.id)) from HTM.out.trans (List.append_nil _))] at ho8
          replace ho8 := Lib.hid ho8
          go_wp2
          go_roundg (L.length - (k + 1))
          case measure => omega
          case rel => exact ⟨k + 1, by omega, by go_num, ho8, HJ6⟩
    · have hkz : ¬ (k : Int) < (L.length : Int) := by omega
      obtain rfl : k = L.length := by omega
      have HF : Hid (OwnI wr W.heap.size u5 ((L.filter (mG t.data.toList)).map (·.id))) := Lib.hid (by
        have := HO.out
        rwa [List.take_length] at this)
      clear HO
      go_wp2
      go_ret
      exact ⟨_, rfl, HF.out, HJ.out⟩
end Go.Proofs.YtnpgmekgmelamaaGreat
