/-
  What is proved: what (*builder).standing returns: the classes of the bytes that stand at a list's positions. What lay in memory before stands as it stood.
-/
import Derived.Test.YtchobpfdmkgnoaaDfNum
namespace Go.Proofs.Ytchobpfdmkgnoaa
open Go.RowKit Go.Shelf Go.Maps

def standF (P : List UInt8) (cl : Nat → Nat) (l : List Int) (k : Nat) : Bool := l.any fun x => decide (x.toNat < P.length) && cl (P.getD x.toNat 0).toNat == k
theorem standF_snoc (P : List UInt8) (cl : Nat → Nat) (l : List Int) (x : Int) (k : Nat) : standF P cl (l ++ [x]) k = (standF P cl l k || (decide (x.toNat < P.length) && cl (P.getD x.toNat 0).toNat == k)) := by simp [standF]
theorem make_bools (n : Nat) (hn : n ≤ 1000000) (w : World) :
    (Instr.makeSlice 26 (.int .i64 (n : Int)) (.int .i64 (n : Int))).run Try.prog w = .ok (.slice (some ⟨w.heap.size, 0, none⟩) n n) (w.alloc (.cells (madeCells #[.bool false] n) 4)) :=
  run_make_row' (P := Try.prog) 26 4 (.bool false) 1 Try.underlying26 info_bool rfl .i64 .i64 n (by omega) (by omega) w

section
variable {W : World} {b nb : Nat} {P SA : List UInt8} {cl : Nat → Nat} {m : Nat} {sv : Value}

set_option maxRecDepth 100000 in
set_option maxHeartbeats 4000000 in
theorem standing_any (hO : BldAt W b nb P SA cl m sv) (hcl : ∀ i, i < 256 → cl i < SA.length) {lv : Value} {l : List Int} (hl : Ints W lv l) (hs : Small l) (hlen : l.length ≤ 1000) (hSA : SA.length ≤ 1000) :
    Calls Try.prog 41 #[.pointer (some ⟨b, 0, none⟩), lv] W fun e w' => e = .returned (.slice (some ⟨W.heap.size, 0, none⟩) SA.length SA.length) ∧ SetAt w' W.heap.size SA.length (standF P cl l) ∧ Below W.heap.size W w' := by
  have hmk := make_bools SA.length (by omega)
  obtain ⟨a, cap, rfl, hcell⟩ := hl.reads
  have HO : Hid (∀ w', Below W.heap.size W w' → BldAt w' b nb P SA cl m sv) := Lib.hid (fun w' h => hO.same (h.block b hO.lt))
  have c2 := hO.c2
  have hs0 := Lib.hid ((set_made W SA.length).congr (h := standF P cl (l.take 0)) (fun i _ => by simp [standF]))
  have hb0 := Lib.hid ((Below.refl W.heap.size W).alloc (Nat.le_refl _) (.cells (madeCells #[.bool false] SA.length) 4))
  obtain ⟨n, hn⟩ : ∃ n, SA.length = n := ⟨_, rfl⟩
  have hz2 : ((str SA).size : Int) = (n : Int) := by rw [str_size, hn]
  obtain ⟨S, hS⟩ : ∃ S, str P = S := ⟨_, rfl⟩
  have hSz : S.size = P.length := by rw [← hS, str_size]
  obtain ⟨T, hT⟩ : ∃ T, str SA = T := ⟨_, rfl⟩
  rw [hT] at c2 hz2
  rw [hn] at hmk hcl hs0 hb0 hSA
  rw [hn]
  have HP : Hid (∀ (k : Nat) (h : k < S.size), P.getD k 0 = S[k]'h) := Lib.hid (fun k h => by
    have e : P = S.data.toList := by rw [← hS, str_data]
    rw [List.getD_eq_getElem?_getD]
    have : P[k]? = some (S[k]'h) := by
      rw [e, List.getElem?_eq_getElem (by rw [← Lib.size_eq]; exact h)]; rfl
    rw [this]; rfl)
  have HS := Lib.hid hs
  have HSZ := Lib.hid hSz
  have HO1 : Hid (∀ w', Below W.heap.size W w' → w'.cell? ⟨b, 1, none⟩ = some (.string S)) := Lib.hid (fun w' h => by have := (HO.out w' h).c1; rwa [hS] at this)
  have HC : Hid (∀ w' i, Below W.heap.size W w' → i < 256 → w'.cell? ⟨b, 3 + i, none⟩ = some (.int .i64 (cl i : Int)) ∧ cl i < n) := Lib.hid (fun w' i h hi => ⟨(HO.out w' h).cls hi, hcl i hi⟩)
  clear hl hs hO hcl hS hT hn HO hSz
  go_enter Try.func41, Try.ntmps41
  go_wp2
  go_loopg [7, 16] l.length (fun gk s7 s16 wr => ∃ k : Nat, k + gk = l.length ∧ s16 = .int .i64 k ∧ Hid (SetAt wr W.heap.size n (standF P cl (l.take k))) ∧ Hid (Below W.heap.size W wr))
  case atStart => exact ⟨0, by omega, rfl, hs0, hb0⟩
  case round =>
    obtain ⟨k, hkg, rfl, HST, HB⟩ := hrel
    clear hs0 hb0
    cases gk with
    | zero =>
      have hkz : ¬ ((k : Int) < (l.length : Int)) := by omega
      have hkt : Hid (l.take k = l) := Lib.hid (List.take_of_length_le (by omega))
      go_wp2
      go_ret
      exact ⟨rfl, hkt.out ▸ HST.out, HB.out⟩
    | succ g' =>
      have hkz : (k : Int) < (l.length : Int) := by omega
      have hkn : k < l.length := by omega
      obtain ⟨b', off, rfl, hc⟩ := hcell.out wr HB.out k hkn
      have hst : Hid (l.take (k + 1) = l.take k ++ [l.getD k 0]) := Lib.hid (take_int l k hkn)
      obtain ⟨c, e1, _⟩ := HS.out.at hkn
      rw [e1] at hc hst
      clear e1
      obtain ⟨x, hx⟩ : ∃ x, c.toNat = x := ⟨_, rfl⟩
      rw [hx] at hc hst
      clear hx
      have cN := HO1.out wr HB.out
      clear hcell
      by_cases hxP : x < S.size
      · have hxz : (x : Int) < (S.size : Int) := by omega
        have hgd := HP.out x hxP
        obtain ⟨d, hd⟩ : ∃ d : UInt8, S[x]'hxP = d := ⟨_, rfl⟩
        have hdl : d.toNat < 256 := d.toNat_lt
        obtain ⟨hcc, hcn⟩ := HC.out wr d.toNat HB.out hdl
        obtain ⟨q, hq⟩ : ∃ q, cl d.toNat = q := ⟨_, rfl⟩
        rw [hq] at hcc hcn
        have hqc := World.rowIs.cell HST.out (i := q) hcn
        have hqf := World.rowIs.frozen HST.out q
        have hqz : (q : Int) < (n : Int) := by omega
        have hdz : (d.toNat : Int) < 256 := by omega
        have HE : Hid (∀ i, standF P cl (l.take (k + 1)) i = (if i = q then true else standF P cl (l.take k) i)) := Lib.hid (fun i => by
          rw [hst.out, standF_snoc, Int.toNat_natCast, hgd, hd, hq, decide_eq_true (by have := HSZ.out; omega)]
          by_cases e : i = q
          · subst e; simp
          · have : (q == i) = false := by simpa using fun h => e h.symm
            rw [this, if_neg e]; simp)
        clear hq hgd
        go_wp2
        go_region
        all_goals
          go_wp2
          go_roundg g'
          case measure => omega
          case rel => exact ⟨k + 1, by omega, iv (by omega), Lib.hid ((HST.out.add q).congr (fun i _ => (HE.out i).symm)), Lib.hid (by first | exact HB.out.setCell (p := ⟨W.heap.size, q, none⟩) (Nat.le_refl _) _ | exact (HB.out.setCell (p := ⟨W.heap.size, q, none⟩) (Nat.le_refl _) _).drew)⟩
      · have hxz : ¬ ((x : Int) < (S.size : Int)) := by omega
        have HE : Hid (∀ i, standF P cl (l.take (k + 1)) i = standF P cl (l.take k) i) := Lib.hid (fun i => by
          rw [hst.out, standF_snoc, Int.toNat_natCast, decide_eq_false (by have := HSZ.out; omega)]
          simp)
        go_wp2
        go_roundg g'
        case measure => omega
        case rel => exact ⟨k + 1, by omega, iv (by omega), Lib.hid (HST.out.congr (fun i _ => (HE.out i).symm)), HB⟩
end
end Go.Proofs.Ytchobpfdmkgnoaa
