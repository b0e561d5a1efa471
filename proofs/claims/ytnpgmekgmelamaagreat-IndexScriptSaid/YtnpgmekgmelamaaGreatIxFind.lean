/-
  What is proved: what findLiterals adds to what is found.
-/
import Derived.Test.YtnpgmekgmelamaaGreatIxDrop
import Derived.Test.YtnpgmekgmelamaaGreatIxPutB
namespace Go.Proofs.YtnpgmekgmelamaaGreat
open Go.RowKit Go.Shelf Go.Maps

/-- A set of numbers, as map[int]bool. -/
def foundF (S : Int → Bool) : Lit → Option Value
  | .int _ i => if S i then some (.bool true) else none
  | _ => none
theorem found_put {W : World} {bf c : Nat} {S : Int → Bool} (h : MapL 3 W bf c (foundF S)) (hc : c < maxLen) (i : Int) (hi : (Lit.int .i64 i).wf = true) :
    ∃ w', (Instr.mapUpdate 111 (.map (some bf)) (.int .i64 i) (.bool true)).run Tryz.prog W = .ok () w' ∧ (∃ c', c' ≤ c + 1 ∧ MapL 3 w' bf c' (foundF fun j => S j || j == i)) ∧ W.grownBy w' (some bf) := by
  obtain ⟨w', hr, hF, hg⟩ := h.put (t := 111) lawI Tryz.underlying111 hc (keyI hi) (.bool true)
  refine ⟨w', hr, ⟨_, by split <;> omega, hF _ fun y hy => ?_⟩, hg⟩
  obtain ⟨j, rfl, _⟩ := keysI hy
  refine ⟨fun e => ?_, fun e => ?_⟩
  · have e := (Lit.int.inj e).2
    show (if (S j || j == i) then _ else _) = _
    rw [if_pos (by simp [e])]
  · have e2 : (j == i) = false := by simpa using fun e2 : j = i => e (by rw [e2])
    show (if (S j || j == i) then _ else _) = (if S j then _ else _)
    rw [e2, Bool.or_false]

theorem field_fold (a : Int) (s : ByteArray) (f : Bool) (w : World) : (Instr.field 66 (.agg #[.int .i64 a, .string s, .bool f]) 2).run Tryz.prog w = .ok (.bool f) w := by kernel_rfl

set_option maxRecDepth 100000 in
set_option maxHeartbeats 2000000 in
theorem ifind_any {w : World} {x : Nat} {L : List G} {N base : Nat} {col : Nat → Col} {most bg bl bo cl co : Nat} {Fl : List UInt8 → Option Value} {ao : Int → Nat} (H : IdxAt w x L N base col most bg bl bo cl co Fl ao) {bf c : Nat} {S : Int → Bool} (hM : MapL 3 w bf c (foundF S)) (hc : c ≤ 1000) (hf : col bf = .free) (k : List UInt8) (hk : k.length ≤ maxLen) (fo : Bool)
    {zs : List Int} {b cap : Nat} (hv : Fl k = some (.slice (some ⟨b, 0, none⟩) zs.length cap)) (hown : w.ownsRow base 3 1 (.slice (some ⟨b, 0, none⟩) zs.length cap) zs.length (zs.map (Value.int .i64))) (hperm : zs.Perm (under L k)) (hcol : col b = .row k) :
    Calls Tryz.prog 69 #[.pointer (some ⟨x, 0, none⟩), .map (some bf), .string (str k), .bool fo] w fun e w' => e = .returned (.tuple #[]) ∧ (∃ c', c' ≤ c + L.length ∧ MapL 3 w' bf c' (foundF fun j => S j || (zs.contains j && ((atI L j).map (·.f) == some fo)))) ∧ w.grownBy w' (some bf) := by
  have hL := H.lits.look (t := 106) lawS Tryz.underlying106 (zero_ints w) (keyStr hk)
  rw [show (litF Fl (.string k)) = Fl k from rfl, hv] at hL
  replace hL : (Instr.lookup 106 (.map (some bl)) (.string (str k)) false).run Tryz.prog w = .ok (.slice (some ⟨b, 0, none⟩) zs.length cap) w := hL
  have c3 := H.obj.c3
  have hbl := (hown.lt b rfl).2
  have hbc : b ≠ bf := fun e => by rw [e, hf] at hcol; cases hcol
  have hi63 : zs.length < 200 + 1 := by
    have := under_len L k
    have := H.len
    have := hperm.length_eq
    omega
  have hcells := hown.cells (g := b) rfl
  have ER : Hid (∀ wr, w.grownBy wr (some bf) → ∀ j (hj : j < zs.length), wr.cell? ⟨b, j, none⟩ = some (.int .i64 zs[j]) ∧ wr.cell? ⟨x, 2, none⟩ = some (.map (some bg)) ∧ ∃ g, g ∈ L ∧ g.id = zs[j] ∧ (Lit.int .i64 g.id).wf = true ∧ atI L g.id = some g ∧
      (Instr.lookup 105 (.map (some bg)) (.int .i64 zs[j]) false).run Tryz.prog wr = .ok (.agg #[.int .i64 g.id, .string g.p, .bool g.f]) wr) := Lib.hid fun wr hg j hj => by
    have hb : wr.heap[b]? = w.heap[b]? := hg.block b hbl (fun e => hbc (by injection e))
    have hx : wr.heap[x]? = w.heap[x]? := hg.block x H.obj.lt (fun e => by
      have : x = bf := by injection e
      have h2 := H.cx
      rw [this, hf] at h2
      cases h2)
    have hbgl := H.globs.lt
    have hG : wr.heap[bg]? = w.heap[bg]? := hg.block bg hbgl (fun e => by
      have : bg = bf := by injection e
      have h2 := H.cg
      rw [this, hf] at h2
      cases h2)
    have hz : zs[j] ∈ under L k := hperm.mem_iff.1 (List.getElem_mem hj)
    unfold under at hz
    obtain ⟨g, hg1, hg2⟩ := List.mem_map.1 hz
    have hgm := (List.mem_filter.1 hg1).1
    refine ⟨?_, (H.obj.same hx).c2, g, hgm, hg2, (H.ids g hgm).1, atI_some H.srt hgm, ?_⟩
    · rw [World.cell?_of_block (w := w) hb]
      have := hcells j (.int .i64 zs[j]) (by simp [hj])
      rwa [show (⟨b, 0, none⟩ : Addr).add j = ⟨b, j, none⟩ by unfold Addr.add; split <;> simp_all] at this
    · have := (H.globs.same hG).look (t := 105) lawI Tryz.underlying105 (zero_glob wr) (keyI (H.ids g hgm).1)
      rw [show (globF L (.int .i64 g.id)).getD zeroG = globV g by show ((atI L g.id).map globV).getD zeroG = globV g; rw [atI_some H.srt hgm]; rfl] at this
      rw [← hg2]
      exact this
  have hlen : zs.length ≤ L.length := by rw [hperm.length_eq]; exact under_len L k
  go_enter Tryz.func69, Tryz.ntmps69
  go_wp2
  clear hL c3 hown hperm hcells hcol
  go_loopg [17] zs.length (fun gk s17 wr => ∃ j : Nat, j + gk = zs.length ∧ s17 = .int .i64 j ∧ Hid ((∃ c', c' ≤ c + j ∧ MapL 3 wr bf c' (foundF fun i => S i || ((zs.take j).contains i && ((atI L i).map (·.f) == some fo)))) ∧ w.grownBy wr (some bf)))
  case atStart => exact ⟨0, by omega, rfl, Lib.hid ⟨⟨c, Nat.le_refl _, hM.congr (fun y hy => by obtain ⟨i, rfl, _⟩ := keysI hy; simp [foundF])⟩, ⟨rfl, rfl, rfl, Nat.le_refl _, fun _ _ _ => rfl⟩⟩⟩
  case round =>
    obtain ⟨j, hjg, rfl, HR⟩ := hrel
    by_cases hj : j < zs.length
    · have hjz : (j : Int) < (zs.length : Int) := by omega
      obtain ⟨e1, e2, g, hgm, hgi, hwf, hat, hLk⟩ := ER.out wr HR.out.2 j hj
      obtain ⟨⟨c', hc', hMj⟩, hgr⟩ := HR.out
      obtain ⟨id, hid⟩ : ∃ id, zs[j] = id := ⟨_, rfl⟩
      rw [hid] at e1 hgi hLk
      obtain ⟨gp, hgp⟩ : ∃ gp, g.p = gp := ⟨_, rfl⟩
      obtain ⟨gf, hgf⟩ : ∃ gf, g.f = gf := ⟨_, rfl⟩
      rw [hgp, hgf, hgi] at hLk
      have hfl := field_fold
      by_cases hfe : gf = fo
      · obtain ⟨w2, hr2, ⟨c2', hc2', hM2⟩, hg2⟩ := found_put hMj (by unfold maxLen; have := H.len; omega) id (by rw [← hgi]; exact hwf)
        have hbe : (gf == fo) = true := by rw [hfe]; cases fo <;> rfl
        have HE : Hid (∃ c', c' ≤ c + (j + 1) ∧ MapL 3 w2 bf c' (foundF fun i => S i || ((zs.take (j + 1)).contains i && ((atI L i).map (·.f) == some fo)))) := Lib.hid ⟨c2', by omega, hM2.congr fun y hy => by
          obtain ⟨i, rfl, _⟩ := keysI hy
          show (if _ then _ else _) = (if _ then _ else _)
          congr 1
          rw [List.take_add_one, List.getElem?_eq_getElem hj, hid]
          simp only [Option.toList_some, List.contains_append, List.contains_cons, List.contains_nil, Bool.or_false, eq_iff_iff, Bool.or_eq_true, Bool.and_eq_true]
          by_cases e : i = id
          · subst e
            rw [hgi] at hat
            simp [hat, hgf, hfe]
          · have e2 : (i == id) = false := by simpa using e
            simp [e2]⟩
        have HG := Lib.hid (show w.grownBy w2 (some bf) from hgr.andThen hg2 (fun j e => by injection e with e; subst e; exact .inr rfl))
        clear hMj hM2 hg2 hgr hat hgm hwf hid hgi hgp hgf HR hM hv hfe
        go_wp2
        go_roundg (zs.length - (j + 1))
        case measure => omega
        case rel => exact ⟨j + 1, by omega, by go_num, Lib.hid ⟨HE.out, HG.out⟩⟩
      · have hbe : (gf == fo) = false := by cases gf <;> cases fo <;> simp_all
        have HE : Hid (∃ c', c' ≤ c + (j + 1) ∧ MapL 3 wr bf c' (foundF fun i => S i || ((zs.take (j + 1)).contains i && ((atI L i).map (·.f) == some fo)))) := Lib.hid ⟨c', by omega, hMj.congr fun y hy => by
          obtain ⟨i, rfl, _⟩ := keysI hy
          show (if _ then _ else _) = (if _ then _ else _)
          congr 1
          rw [List.take_add_one, List.getElem?_eq_getElem hj, hid]
          simp only [Option.toList_some, List.contains_append, List.contains_cons, List.contains_nil, Bool.or_false, eq_iff_iff, Bool.or_eq_true, Bool.and_eq_true]
          by_cases e : i = id
          · subst e
            rw [hgi] at hat
            simp [hat, hgf, hfe]
          · have e2 : (i == id) = false := by simpa using e
            simp [e2]⟩
        have HG := Lib.hid hgr
        clear hMj hgr hat hgm hwf hid hgi hgp hgf HR hM hv hfe
        go_wp2
        go_roundg (zs.length - (j + 1))
        case measure => omega
        case rel => exact ⟨j + 1, by omega, by go_num, Lib.hid ⟨HE.out, HG.out⟩⟩
    · have hjz : ¬ (j : Int) < (zs.length : Int) := by omega
      obtain rfl : j = zs.length := by omega
      have HE : Hid ((∃ c', c' ≤ c + L.length ∧ MapL 3 wr bf c' (foundF fun j => S j || (zs.contains j && ((atI L j).map (·.f) == some fo)))) ∧ w.grownBy wr (some bf)) := Lib.hid (by
        obtain ⟨⟨c', h1, h2⟩, h3⟩ := HR.out
        rw [List.take_length] at h2
        exact ⟨⟨c', by omega, h2⟩, h3⟩)
      clear HR hM hv
      go_wp2
      first | go_end0 | (refine bodyPost_ret (results_none rfl _ _ _) rfl ?_)
      exact ⟨rfl, by simpa only [List.contains_eq_mem] using HE.out⟩

/-- Is number j that of a literal kept under k, of that fold? -/
def litHas (L : List G) (k : List UInt8) (fo : Bool) (j : Int) : Bool := (atI L j).any fun g => keyG g == some k && g.f == fo
theorem lit_has {L : List G} (hs : Sorted L) {k : List UInt8} {zs : List Int} (hp : zs.Perm (under L k)) (fo : Bool) (j : Int) : (zs.contains j && ((atI L j).map (·.f) == some fo)) = litHas L k fo j := by
  unfold litHas
  have hc : zs.contains j = (under L k).contains j := by
    rw [Bool.eq_iff_iff, List.contains_iff_mem, List.contains_iff_mem]
    exact hp.mem_iff
  rw [hc]
  cases e : atI L j with
  | none => simp
  | some g =>
    obtain ⟨hg, hj⟩ := atI_mem e
    have hm : (under L k).contains j = (keyG g == some k) := by
      rw [Bool.eq_iff_iff, List.contains_iff_mem, beq_iff_eq]
      unfold under
      rw [List.mem_map]
      constructor
      · rintro ⟨g', h1, h2⟩
        obtain ⟨h3, h4⟩ := List.mem_filter.1 h1
        rw [sorted_one hs hg h3 (by omega)]
        simpa using h4
      · intro h
        exact ⟨g, List.mem_filter.2 ⟨hg, by simpa using h⟩, hj⟩
    rw [hm]
    simp

theorem ifind_none {w : World} {x : Nat} {L : List G} {N base : Nat} {col : Nat → Col} {most bg bl bo cl co : Nat} {Fl : List UInt8 → Option Value} {ao : Int → Nat} (H : IdxAt w x L N base col most bg bl bo cl co Fl ao) (bf : Nat) (k : List UInt8) (hk : k.length ≤ maxLen) (fo : Bool) (hv : Fl k = none) :
    Calls Tryz.prog 69 #[.pointer (some ⟨x, 0, none⟩), .map (some bf), .string (str k), .bool fo] w fun e w' => e = .returned (.tuple #[]) ∧ w' = w := by
  have hL := H.lits.look (t := 106) lawS Tryz.underlying106 (zero_ints w) (keyStr hk)
  rw [show (litF Fl (.string k)) = Fl k from rfl, hv] at hL
  replace hL : (Instr.lookup 106 (.map (some bl)) (.string (str k)) false).run Tryz.prog w = .ok (.slice none 0 0) w := hL
  have c3 := H.obj.c3
  clear H hv
  go_enter Tryz.func69, Tryz.ntmps69
  go_wp2
  go_loopg [17] 0 (fun gk s17 wr => s17 = .int .i64 0 ∧ wr = w)
  case atStart => exact ⟨rfl, rfl⟩
  case round =>
    obtain ⟨rfl, e⟩ := hrel
    subst e
    go_wp2
    first | go_end0 | (refine bodyPost_ret (results_none rfl _ _ _) rfl ?_)
    exact ⟨rfl, rfl⟩

theorem Idx.find {w : World} {x : Nat} {L : List G} {N base : Nat} {col : Nat → Col} (H : Idx w x L N base col) {bf c : Nat} {S : Int → Bool} (hM : MapL 3 w bf c (foundF S)) (hc : c ≤ 1000) (hf : col bf = .free) (k : List UInt8) (hk : k.length ≤ maxLen) (fo : Bool) :
    Calls Tryz.prog 69 #[.pointer (some ⟨x, 0, none⟩), .map (some bf), .string (str k), .bool fo] w fun e w' => e = .returned (.tuple #[]) ∧ (∃ c', c' ≤ c + L.length ∧ MapL 3 w' bf c' (foundF fun j => S j || litHas L k fo j)) ∧ w.grownBy w' (some bf) := by
  obtain ⟨most, bg, bl, bo, cl, co, Fl, ao, H⟩ := H
  cases hv : Fl k with
  | none =>
    refine (ifind_none H bf k hk fo hv).mono ?_
    rintro e w' ⟨rfl, rfl⟩
    refine ⟨rfl, ⟨c, by omega, hM.congr fun y hy => ?_⟩, ⟨rfl, rfl, rfl, Nat.le_refl _, fun _ _ _ => rfl⟩⟩
    obtain ⟨i, rfl, _⟩ := keysI hy
    show (if _ then _ else _) = (if _ then _ else _)
    congr 1
    have : litHas L k fo i = false := by
      unfold litHas
      cases e : atI L i with
      | none => rfl
      | some g =>
        have := H.nol k hv g (atI_mem e).1
        simp [this]
    simp [this]
  | some v =>
    obtain ⟨zs, b, cap, rfl, h1, h2, _, h4⟩ := H.rows k v hv
    refine (ifind_any H hM hc hf k hk fo hv h1 h2 h4).mono ?_
    rintro e w' ⟨rfl, ⟨c', h5, h6⟩, h7⟩
    refine ⟨rfl, ⟨c', h5, h6.congr fun y hy => ?_⟩, h7⟩
    obtain ⟨i, rfl, _⟩ := keysI hy
    show (if (S i || litHas L k fo i) = true then some (Value.bool true) else none) = (if (S i || (zs.contains i && ((atI L i).map (·.f) == some fo))) = true then some (Value.bool true) else none)
    rw [lit_has H.srt h2]
end Go.Proofs.YtnpgmekgmelamaaGreat
