/-
  What is proved: what Match returns.
-/
import Derived.Test.YtnpgmekgmelamaaGreatIxFind
import Derived.Test.YtnpgmekgmelamaaGreatIxKeys
import Derived.Maps.RangeWalk
namespace Go.Proofs.YtnpgmekgmelamaaGreat
open Go.RowKit Go.Shelf Go.Maps

/-- What else is found, of those that are not left. -/
def othHas (L : List G) (t : List UInt8) (left : Lit → Bool) (j : Int) : Bool := !left (.int .i64 j) && (atI L j).any fun g => (keyG g).isNone && mG t g
theorem lit_ne {i j : Int} (h : i ≠ j) : (Lit.int .i64 i).sameKey (.int .i64 j) = false := Maps.sameKey_ne (fun e => h (Lit.int.inj e).2)
theorem lit_eq (i : Int) : (Lit.int .i64 i).sameKey (.int .i64 i) = true := by simp [Lit.sameKey]

theorem grown_below {W w' : World} (h : Below W.heap.size W w') : W.grownBy w' none := ⟨h.os, h.tape, h.output, h.size, fun k hk _ => h.block k hk⟩

/-- The next of the others. -/
theorem next_auto {L : List G} {ao : Int → Nat} (w : World) {ops : Array Oper} {rest : List Oper} {o : Oper} {a : Act} {Q : Exit → Act → World → Prop} (hg : o.guard = none) (it : Operand) (hop : o.op = Op.next it false) {b r n : Nat} {D : DataW Value} {left : Lit → Bool} {cnt : Nat}
    (hit : a.eval it = .pointer (some ⟨r, 0, none⟩)) (h : w.ranges Tryz.prog 3 heldR b r n D left cnt) (hF : ∀ kl, KeysOf Tryz.prog 3 kl → Maps.has D kl = (otherF L ao kl).isSome ∧ ∀ v, otherF L ao kl = some v → ∀ z, D.atKey kl z = .held v)
    (hDone : (∀ kl, left kl = false) → wpList Tryz.prog ops Q rest (a.put o.dst (.tuple #[.bool false])) w)
    (hMore : ∀ (g : G) (w' : World) (cnt' : Nat), g ∈ L → keyG g = none → left (.int .i64 g.id) = true → w'.ranges Tryz.prog 3 heldR b r n D (fun z => left z && !z.sameKey (.int .i64 g.id)) cnt' → cnt' < cnt →
      w.grownBy w' (some r) → w'.heap.size = w.heap.size → (Instr.entry (.pointer (some ⟨r, 0, none⟩))).run Tryz.prog w' = .ok (.tuple #[.int .i64 g.id, .pointer (some ⟨ao g.id, 0, none⟩)]) w' → wpList Tryz.prog ops Q rest (a.put o.dst (.tuple #[.bool true, .int .i64 g.id, .pointer (some ⟨ao g.id, 0, none⟩)])) w') :
    wpList Tryz.prog ops Q (o :: rest) a w :=
  wpList_next_ranges w hg it hop 3 lawI heldR (Value.int .i64) (fun v : Value => v) (fun key kl hkey => by obtain ⟨x, rfl, _⟩ := Maps.keyOf_int_inv Tryz.underlying3 hkey; exact ⟨x, rfl⟩) (fun v y _ => ⟨v, rfl⟩) b r n D left cnt hit h (fun _ hl => hDone hl)
    (fun j c kl y w' cnt' hkey hlk hv hat hrg hlt hgr hsz hen => by
      obtain ⟨j', e1, rfl, hw⟩ := Maps.keyOf_int_inv Tryz.underlying3 hkey
      have e2 : j = j' := by injection e1
      subst e2
      obtain ⟨h1, h2⟩ := hF _ (key_ok hkey)
      rw [Maps.has_true_of_atKey hat] at h1
      obtain ⟨v, hv2⟩ := Option.isSome_iff_exists.1 h1.symm
      have hcv : c = v := by
        have := (hat (.held v)).symm.trans (h2 v hv2 (.held v))
        have hy : y.1 = .held c := by
          have := Option.some.inj hv
          rw [← this]
        rw [hy] at this
        exact DataW.held.inj this
      have hv3 : ((atI L j).bind fun g => if keyG g = none then some (Value.pointer (some ⟨ao j, 0, none⟩)) else none) = some v := hv2
      cases e : atI L j with
      | none => rw [e] at hv3; cases hv3
      | some g =>
        rw [e] at hv3
        obtain ⟨hgm, rfl⟩ := atI_mem e
        have hv4 : (if keyG g = none then some (Value.pointer (some ⟨ao g.id, 0, none⟩)) else none) = some v := hv3
        by_cases hk : keyG g = none
        · rw [if_pos hk] at hv4
          have : c = .pointer (some ⟨ao g.id, 0, none⟩) := by rw [hcv, ← Option.some.inj hv4]
          subst this
          exact hMore g w' cnt' hgm hk hlk hrg hlt hgr hsz hen
        · rw [if_neg hk] at hv4; cases hv4)

set_option maxRecDepth 100000 in
set_option maxHeartbeats 2000000 in
theorem imatch_any {w : World} {x : Nat} {L : List G} {N base : Nat} {col : Nat → Col} (H : Idx w x L N base col) (hN : N ≤ 1000000) (t : ByteArray) (ht : t.size ≤ 1000000) :
    Calls Tryz.prog 34 #[.pointer (some ⟨x, 0, none⟩), .string t] w fun e w' => ∃ v ids, e = .returned v ∧ Below w.heap.size w w' ∧ w'.ownsRow w.heap.size 3 1 v ids.length (ids.map (Value.int .i64)) ∧ ids = (L.filter (mG t.data.toList)).map (·.id) := by
  have hmm := @run_makeMap Tryz.prog
  have C0 : Hid (Calls Tryz.prog 68 #[.pointer (some ⟨x, 0, none⟩)] w fun e w' => e = .returned (.bool true) ∧ w' = w) := Lib.hid (by
    obtain ⟨most, bg, bl, bo, cl, co, Fl, ao, H⟩ := H
    exact imade_any H.obj)
  go_enter Tryz.func34, Tryz.ntmps34
  go_wp2_with fail
  refine C0.out.mono ?_
  rintro e w0 ⟨rfl, e0⟩
  rw [e0]
  clear e0 w0
  obtain ⟨W1, hW1⟩ : ∃ W1, w.alloc (.map #[] 0) = W1 := ⟨_, rfl⟩
  have hb1 : Below w.heap.size w W1 := by rw [← hW1]; exact (Below.refl _ w).alloc (Nat.le_refl _) _
  have hz1 : W1.heap.size = w.heap.size + 1 := by rw [← hW1]; exact World.size_alloc ..
  have hM1 : MapL 3 W1 w.heap.size 0 (foundF fun _ => false) := by
    rw [← hW1]
    exact (MapL.made w 3).congr (fun y hy => by obtain ⟨i, rfl, _⟩ := keysI hy; rfl)
  have hf : col w.heap.size = .free := H.free (.inr (Nat.le_refl _))
  have hLl : L.length ≤ 200 := by obtain ⟨most, bg, bl, bo, cl, co, Fl, ao, H⟩ := H; exact H.len
  have C1 : Hid (Calls Tryz.prog 69 #[.pointer (some ⟨x, 0, none⟩), .map (some w.heap.size), .string t, .bool false] W1 fun e w2 => e = .returned (.tuple #[]) ∧ (∃ c', c' ≤ 200 ∧ MapL 3 w2 w.heap.size c' (foundF fun j => litHas L t.data.toList false j)) ∧ Below w.heap.size w w2 ∧ W1.heap.size ≤ w2.heap.size) := Lib.hid (by
    have := (H.below hb1).find hM1 (by omega) hf t.data.toList (by unfold maxLen; rw [← Lib.size_eq]; omega) false
    rw [str_of] at this
    refine this.mono ?_
    rintro e w2 ⟨rfl, ⟨c', h1, h2⟩, h3⟩
    exact ⟨rfl, ⟨c', by omega, h2.congr (fun y hy => by obtain ⟨i, rfl, _⟩ := keysI hy; simp [foundF])⟩, hb1.grown h3 (Nat.le_of_lt (by omega)) (fun j e => by injection e with e; omega), h3.size⟩)
  have C2 := Lib.hid (fun W => fold_any t W ht)
  have C3 : Hid (∀ W c, Below w.heap.size w W → w.heap.size < W.heap.size → c ≤ 200 → MapL 3 W w.heap.size c (foundF fun j => litHas L t.data.toList false j) → Calls Tryz.prog 69 #[.pointer (some ⟨x, 0, none⟩), .map (some w.heap.size), .string (str (foldL t.data.toList)), .bool true] W fun e w2 => e = .returned (.tuple #[]) ∧ (∃ c', c' ≤ 400 ∧ MapL 3 w2 w.heap.size c' (foundF fun j => litHas L t.data.toList false j || litHas L (foldL t.data.toList) true j)) ∧ Below w.heap.size w w2 ∧ W.heap.size ≤ w2.heap.size) := Lib.hid (fun W c hW hWz hc hM => by
    refine ((H.below hW).find hM (by omega) hf (foldL t.data.toList) (by unfold maxLen foldL; rw [List.length_map, ← Lib.size_eq]; omega) true).mono ?_
    rintro e w2 ⟨rfl, ⟨c', h1, h2⟩, h3⟩
    exact ⟨rfl, ⟨c', by omega, h2⟩, hW.grown h3 hW.size (fun j e => by injection e with e; omega), h3.size⟩)
  obtain ⟨fs, hfs⟩ : ∃ fs, str (foldL t.data.toList) = fs := ⟨_, rfl⟩
  rw [hfs] at C2 C3
  subst hW1
  clear hM1
  go_wp2_with fail
  refine C1.out.mono ?_
  rintro e w2 ⟨rfl, ⟨c2, hc2, hM2⟩, hb2, hz2⟩
  go_wp2_with fail
  refine (C2.out _).mono ?_
  rintro e w3 ⟨rfl, hb3⟩
  have hM3 := hM2.same (hb3.block _ hM2.lt)
  have hb03 := hb2.trans (hb3.mono hb2.size)
  have C4 := Lib.hid (C3.out w3 c2 hb03 (by have := hb3.size; omega) hc2 hM3)
  have hz3 : w.heap.size < w3.heap.size := by have := hb3.size; omega
  clear C1 C2 C3 hM2 hM3 hb2 hb3 hz2 hfs
  go_wp2_with fail
  refine C4.out.mono ?_
  rintro e w4 ⟨rfl, ⟨c4, hc4, hM4⟩, hb4, hz4⟩
  have hb04 : Below w.heap.size w w4 := hb4
  clear C4
  obtain ⟨most, bg, bl, bo, cl, co, Fl, ao, H0⟩ := H
  have H4 := H0.same hb04.size (fun k hk _ => hb04.block k hk)
  have c4' := H4.obj.c4
  obtain ⟨D, hown, hsz, hF⟩ := H4.others
  have hco : co ≤ 1000000 := Nat.le_trans H0.con hN
  have hbo : bo < w.heap.size := H0.others.lt
  have hs2 : Sorted L := H0.srt
  have hids : Hid (∀ g, g ∈ L → (Lit.int .i64 g.id).wf = true) := Lib.hid (fun g hg => (H0.ids g hg).1)
  have C5 : Hid (∀ W, Below w.heap.size w W → ∀ g, g ∈ L → keyG g = none → Calls Tryz.prog 25 #[.pointer (some ⟨ao g.id, 0, none⟩), .string t] W fun e w' => e = .returned (.bool (mG t.data.toList g)) ∧ Below W.heap.size W w') := Lib.hid (fun W hW g hg hk => by
    obtain ⟨lo, hi, h1, _⟩ := (H0.same hW.size (fun k hk _ => hW.block k hk)).autos g hg hk
    have := h1.match t ht
    rwa [mG_norm] at this)
  obtain ⟨S2, hS2⟩ : ∃ S2 : Int → Bool, S2 = fun j => litHas L t.data.toList false j || litHas L (foldL t.data.toList) true j := ⟨_, rfl⟩
  rw [← hS2] at hM4
  have hFH : Hid (∀ kl, KeysOf Tryz.prog 3 kl → Maps.has D kl = (otherF L ao kl).isSome ∧ ∀ v, otherF L ao kl = some v → ∀ z, D.atKey kl z = .held v) := Lib.hid hF
  have hstart : MapL 3 w4 w.heap.size c4 (foundF fun j => S2 j || othHas L t.data.toList (Maps.has D) j) := hM4.congr (fun y hy => by
    obtain ⟨j, rfl, _⟩ := keysI hy
    have : othHas L t.data.toList (Maps.has D) j = false := by
      unfold othHas
      rw [(hF _ hy).1]
      show (!((atI L j).bind fun g => if keyG g = none then some (Value.pointer (some ⟨ao j, 0, none⟩)) else none).isSome && (atI L j).any fun g => (keyG g).isNone && mG t.data.toList g) = false
      cases atI L j with
      | none => rfl
      | some g =>
        by_cases e : keyG g = none
        · simp [e]
        · have e2 : (keyG g).isNone = false := by
            cases h : keyG g with
            | none => exact absurd h e
            | some _ => rfl
          simp [e2]
    show (if (S2 j || othHas L t.data.toList (Maps.has D) j) = true then _ else _) = (if S2 j = true then _ else _)
    rw [this, Bool.or_false])
  have hszD : Maps.size D ≤ 1000000 := by omega
  clear hF H0 H4 hsz hM4 hb4 C0 hb1 hz1 hN
  go_wp2_with (at_range; refine wpList_range_own _ rfl _ 107 rfl 3 39 lawI Tryz.underlying107 heldR bo co D rfl hown ?_; intro w5 hrg5 hg5 hs5)
  go_frame
  have hM5 := hstart.same (hg5.block w.heap.size (by omega) (by simp))
  have hb5 : Below w.heap.size w w5 := hb04.grown hg5 hb04.size (fun j e => by cases e)
  obtain ⟨r, hr⟩ : ∃ r, w4.heap.size = r := ⟨_, rfl⟩
  rw [hr] at hrg5
  rw [hr]
  have hrz : w.heap.size < r := by omega
  clear hown hstart c4' hg5
  go_loopg [26] 1000000 (fun gk s26 wr => ∃ (left : Lit → Bool) (cnt c' : Nat), cnt ≤ gk ∧ c' + cnt ≤ 1000400 ∧ Hid (wr.ranges Tryz.prog 3 heldR bo r co D left cnt) ∧ Hid (MapL 3 wr w.heap.size c' (foundF fun j => S2 j || othHas L t.data.toList left j)) ∧ Hid (Below w.heap.size w wr))
  case atStart => exact ⟨Maps.has D, Maps.size D, c4, hszD, by omega, Lib.hid hrg5, Lib.hid hM5, Lib.hid hb5⟩
  case round =>
    obtain ⟨left, cnt, c', hcg, hcc, HR, HM, HB⟩ := hrel
    clear hrg5 hM5 hb5
    go_wp2_with (at_next; refine next_auto (L := L) (ao := ao) _ rfl _ rfl rfl HR.out hFH.out ?_ ?_)
    · intro hl0
      have hend := Lib.hid (show MapL 3 wr w.heap.size c' (foundF fun j => S2 j || (atI L j).any fun g => (keyG g).isNone && mG t.data.toList g) from HM.out.congr (fun y hy => by
        obtain ⟨j, rfl, _⟩ := keysI hy
        show (if _ then _ else _) = (if _ then _ else _)
        unfold othHas
        dsimp only
        simp [hl0]))
      have CK := Lib.hid (fun W => keysB_any (some w.heap.size) W)
      have CS := Lib.hid (sortedB_any hend.out (by omega))
      clear hl0 HR HM hFH C5
      have HFIN : Hid (∀ (w9 : World) (v : Value) (ids : List Int), Below (wr.alloc (.cells #[.map (some w.heap.size)] 111)).heap.size (wr.alloc (.cells #[.map (some w.heap.size)] 111)) w9 → ids.Pairwise (· < ·) → (∀ i : Int, i ∈ ids ↔ (Lit.int .i64 i).wf = true ∧ ((foundF fun j => S2 j || (atI L j).any fun g => (keyG g).isNone && mG t.data.toList g) (.int .i64 i)).isSome = true) →
          w9.ownsRow (wr.alloc (.cells #[.map (some w.heap.size)] 111)).heap.size 3 1 v ids.length (ids.map (Value.int .i64)) → Below w.heap.size w w9 ∧ w9.ownsRow w.heap.size 3 1 v ids.length (ids.map (Value.int .i64)) ∧ ids = (L.filter (mG t.data.toList)).map (·.id)) := Lib.hid (fun w9 v ids hb9 hrise hmem hrow => by
        have hzr := HB.out.size
        refine ⟨(HB.out.alloc hzr _).trans (hb9.mono (by simp; omega)), row_base hrow (by simp; omega), rising_ext hrise (ids_rising hs2 _) fun i => ?_⟩
        rw [hmem]
        have h1 : ((foundF fun j => S2 j || (atI L j).any fun g => (keyG g).isNone && mG t.data.toList g) (.int .i64 i)).isSome = (S2 i || (atI L i).any fun g => (keyG g).isNone && mG t.data.toList g) := by
          show (if (S2 i || (atI L i).any fun g => (keyG g).isNone && mG t.data.toList g) = true then some (Value.bool true) else none).isSome = _
          cases (S2 i || (atI L i).any fun g => (keyG g).isNone && mG t.data.toList g) <;> rfl
        have h2 : (S2 i || (atI L i).any fun g => (keyG g).isNone && mG t.data.toList g) = (atI L i).any (mG t.data.toList) := by
          rw [hS2]
          dsimp only
          unfold litHas
          cases atI L i with
          | none => rfl
          | some g =>
            show ((keyG g == some t.data.toList && g.f == false || keyG g == some (foldL t.data.toList) && g.f == true) || (keyG g).isNone && mG t.data.toList g) = mG t.data.toList g
            cases e : keyG g with
            | none => simp
            | some k =>
              rw [mG_key e]
              unfold fL
              cases g.f <;> simp
        rw [h1, h2, List.mem_map]
        constructor
        · rintro ⟨_, h3⟩
          cases e : atI L i with
          | none => rw [e] at h3; cases h3
          | some g =>
            rw [e] at h3
            obtain ⟨h4, h5⟩ := atI_mem e
            exact ⟨g, List.mem_filter.2 ⟨h4, h3⟩, h5⟩
        · rintro ⟨g, h3, rfl⟩
          obtain ⟨h4, h5⟩ := List.mem_filter.1 h3
          refine ⟨hids.out g h4, ?_⟩
          rw [atI_some hs2 h4]
          exact h5)
      clear hend hS2 HB
      go_wp2_with fail
      refine (CK.out _).mono ?_
      rintro e w8 ⟨rfl, rfl⟩
      go_wp2_with fail
      refine CS.out.mono ?_
      rintro e w9 ⟨v, ids, rfl, hrise, hmem, hrow, hb9⟩
      obtain ⟨f1, f2, f3⟩ := HFIN.out w9 v ids hb9 hrise hmem hrow
      replace f1 := Lib.hid f1
      replace f2 := Lib.hid f2
      replace f3 := Lib.hid f3
      clear HFIN hrise hmem hrow hb9 CS CK
      go_wp2
      go_ret
      exact ⟨v, ids, rfl, f1.out, f2.out, f3.out⟩
    · intro g w6 cnt6 hgm hk hlk hrg6 hlt6 hgr6 hsz6 hen6
      have hbW6 : Below w.heap.size w w6 := HB.out.grown hgr6 HB.out.size (fun j e => by injection e with e; omega)
      have C6 := Lib.hid (C5.out w6 hbW6 g hgm hk)
      have hM6 := HM.out.same (hgr6.block w.heap.size HM.out.lt (fun e => by injection e with e; omega))
      have hwf := hids.out g hgm
      have hat := atI_some hs2 hgm
      cases hmg : mG t.data.toList g with
      | true =>
        rw [hmg] at C6
        have HEND : Hid (∀ w7, Below w6.heap.size w6 w7 → ∃ w8, (Instr.mapUpdate 111 (.map (some w.heap.size)) (.int .i64 g.id) (.bool true)).run Tryz.prog w7 = .ok () w8 ∧ Hid (∃ (left : Lit → Bool) (cnt c' : Nat), cnt ≤ cnt6 ∧ c' + cnt ≤ 1000400 ∧ Hid (w8.ranges Tryz.prog 3 heldR bo r co D left cnt) ∧ Hid (MapL 3 w8 w.heap.size c' (foundF fun j => S2 j || othHas L t.data.toList left j)) ∧ Hid (Below w.heap.size w w8))) := Lib.hid (fun w7 hb7 => by
          have hM7 := hM6.same (hb7.block _ hM6.lt)
          have hrg7 := hrg6.kept (grown_below hb7) (by simp) (by simp)
          obtain ⟨w8, hr8, ⟨c8, hc8, hM8⟩, hg8⟩ := found_put hM7 (by unfold maxLen; omega) g.id hwf
          refine ⟨w8, hr8, Lib.hid ⟨_, cnt6, c8, Nat.le_refl _, by omega, Lib.hid (hrg7.kept hg8 (fun e => by injection e with e; omega) (fun e => by injection e with e; omega)), Lib.hid (hM8.congr fun y hy => ?_), Lib.hid ((hbW6.trans (hb7.mono hbW6.size)).grown hg8 (hbW6.trans (hb7.mono hbW6.size)).size (fun j e => by injection e with e; omega))⟩⟩
          obtain ⟨j, rfl, _⟩ := keysI hy
          show (if (S2 j || othHas L t.data.toList _ j) = true then _ else _) = (if ((S2 j || othHas L t.data.toList left j) || j == g.id) = true then _ else _)
          congr 1
          rw [eq_iff_iff]
          unfold othHas
          dsimp only
          by_cases e : j = g.id
          · subst e
            simp [hat, hk, hmg, lit_eq]
          · have e2 : (j == g.id) = false := by simpa using e
            rw [e2, lit_ne e, Bool.or_false]
            simp)
        clear hrg6 hM6 hbW6 hgr6 hsz6 hgm hk hlk hwf hat hmg HR HM HB hFH C5
        go_wp2_with fail
        refine C6.out.mono ?_
        rintro e w7 ⟨rfl, hb7⟩
        obtain ⟨w8, hr8, hE8⟩ := HEND.out w7 hb7
        clear HEND C6 hb7
        go_wp2
        go_roundg cnt6
        case measure => omega
        case rel => exact hE8.out
      | false =>
        rw [hmg] at C6
        have HEND : Hid (∀ w7, Below w6.heap.size w6 w7 → (∃ (left : Lit → Bool) (cnt c' : Nat), cnt ≤ cnt6 ∧ c' + cnt ≤ 1000400 ∧ Hid (w7.ranges Tryz.prog 3 heldR bo r co D left cnt) ∧ Hid (MapL 3 w7 w.heap.size c' (foundF fun j => S2 j || othHas L t.data.toList left j)) ∧ Hid (Below w.heap.size w w7))) := Lib.hid (fun w7 hb7 => by
          have hM7 := hM6.same (hb7.block _ hM6.lt)
          have hrg7 := hrg6.kept (grown_below hb7) (by simp) (by simp)
          refine ⟨_, cnt6, c', Nat.le_refl _, by omega, Lib.hid hrg7, Lib.hid (hM7.congr fun y hy => ?_), Lib.hid (hbW6.trans (hb7.mono hbW6.size))⟩
          obtain ⟨j, rfl, _⟩ := keysI hy
          show (if (S2 j || othHas L t.data.toList _ j) = true then _ else _) = (if (S2 j || othHas L t.data.toList left j) = true then _ else _)
          congr 1
          rw [eq_iff_iff]
          unfold othHas
          dsimp only
          by_cases e : j = g.id
          · subst e
            simp [hat, hmg]
          · rw [lit_ne e]
            simp)
        clear hrg6 hM6 hbW6 hgr6 hsz6 hgm hk hlk hwf hat hmg HR HM HB hFH C5
        go_wp2_with fail
        refine C6.out.mono ?_
        rintro e w7 ⟨rfl, hb7⟩
        have hE8 := Lib.hid (HEND.out w7 hb7)
        clear HEND C6 hb7
        go_wp2
        go_roundg cnt6
        case measure => omega
        case rel => exact hE8.out
end Go.Proofs.YtnpgmekgmelamaaGreat
