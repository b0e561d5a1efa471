/-
  What is proved: what dfa.letters returns: the letters of its string, each once, in ascending order; taken that slices.Sort sorts. What lay in memory before stands as it stood.
-/
import Derived.Test.YtchobpfdmkgnoaaDfLetM
import Derived.Test.YtchobpfdmkgnoaaShelfB
import Derived.Laws.IdiomStrings
import Derived.Lib.OwnBridge
namespace Go.Proofs.Ytchobpfdmkgnoaa
open Go.RowKit Go.Shelf Go.Sort

theorem eql_b : EqlAt Try.prog 5 encB (fun x y => decide (x = y)) := by
  refine ⟨fun x y w => ?_, fun op a b x y w => GuardAt.int _ _ .u8 op a b _ _ w⟩
  have := (EqlAt.int Try.prog 5 .u8).1 (x.toNat : Int) (y.toNat : Int) w
  have e : (((x.toNat : Int) == (y.toNat : Int))) = decide (x = y) := by
    rw [byte_beq]
    by_cases h : x = y <;> simp [h]
  dsimp only at this ⊢
  rw [e] at this
  exact this
theorem neq_b : NeqAt Try.prog 5 encB (fun x y => decide (x = y)) := by
  refine ⟨fun x y w => ?_, fun op a b x y w => GuardAt.int _ _ .u8 op a b _ _ w⟩
  have := (NeqAt.int Try.prog 5 .u8).1 (x.toNat : Int) (y.toNat : Int) w
  have e : (((x.toNat : Int) == (y.toNat : Int))) = decide (x = y) := by
    rw [byte_beq]
    by_cases h : x = y <;> simp [h]
  dsimp only at this ⊢
  rw [e] at this
  exact this
theorem zero_b (w : World) : (zeroValue 5).run Try.prog w = .ok (encB 0) w := by kernel_rfl
theorem one_b : Go.Proofs.OneCell encB := fun _ => rfl

theorem wild_any (c : UInt8) (w : World) : Calls Try.prog 50 #[.int .u8 (c.toNat : Int)] w fun e w' => e = .returned (.bool (wildC c)) ∧ w' = w := by
  have HE : Hid (wildC c = (((c.toNat : Int) == 42) || ((c.toNat : Int) == 63))) := Lib.hid (by
    unfold wildC
    rw [show (42 : Int) = ((42 : UInt8).toNat : Int) from rfl, show (63 : Int) = ((63 : UInt8).toNat : Int) from rfl, byte_beq, byte_beq])
  rw [HE.out]
  by_cases h : (c.toNat : Int) = 42
  · have h1 : ((c.toNat : Int) == 42) = true := by simpa using h
    rw [h1, Bool.true_or]
    go_enter Try.func50, Try.ntmps50
    go_wp2
    go_ret
    exact ⟨rfl, rfl⟩
  · have h1 : ((c.toNat : Int) == 42) = false := by simpa using h
    rw [h1, Bool.false_or]
    clear h
    go_enter Try.func50, Try.ntmps50
    go_wp2
    go_ret
    exact ⟨rfl, rfl⟩
theorem wild_gives (c : UInt8) (w : World) : FnGives Try.prog 50 #[] #[encB c] (.bool (wildC c)) w :=
  (wild_any c w).mono (fun _ _ ⟨h1, h2⟩ => ⟨h1, 0, h2⟩)

/-- slices.Sort, of n bytes. -/
def SortsN (n : Nat) : Prop := ∀ (blk cap : Nat) (d : Array UInt8) (w : World), d.size = n → Holds encB w blk 0 d →
  Calls Try.prog 51 #[.slice (some ⟨blk, 0, none⟩) n cap] w fun e w' => e = .returned (.tuple #[]) ∧ ∃ d', Holds encB w' blk 0 d' ∧ SortsU d d' ∧ OnlyAt blk w.heap.size w w'
theorem sortsN_small {n : Nat} (h : n ≤ 12) : SortsN n := fun blk cap d w hd hH => by
  have := sort_small blk 0 cap d w hH (by omega)
  rwa [hd] at this

theorem holds_list {w : World} {blk : Nat} {d : Array UInt8} (h : Holds encB w blk 0 d) (l : List UInt8) (e : ∀ j, j < l.length → j < d.size ∧ d[j]! = l.getD j 0) : Holds encB w blk 0 l.toArray := by
  intro j hj
  have hj' : j < l.length := by simpa using hj
  obtain ⟨h1, h2⟩ := e j hj'
  obtain ⟨c, f⟩ := h j h1
  refine ⟨?_, f⟩
  rw [c, h2, arr_get _ hj]
  simp [List.getD, hj']
theorem back_list {w : World} {blk cap : Nat} (l : List UInt8) (h : Holds encB w blk 0 l.toArray) : (convert 68 9 (.slice (some ⟨blk, 0, none⟩) l.length cap)).run Try.prog w = .ok (.string (str l)) w :=
  run_convert_bytes_back (P := Try.prog) w 68 9 5 ⟨blk, 0, none⟩ cap l Try.underlying68 Try.underlying5 Try.underlying9 (fun j hj => by
    have ea : (⟨blk, 0, none⟩ : Addr).add j = ⟨blk, j, none⟩ := by unfold Addr.add; split <;> simp_all
    have := (h j (by simpa using hj)).1
    rw [Nat.zero_add] at this
    rw [ea, this, arr_get _ (by simpa using hj)]
    rfl)

theorem putRow_only {w : World} {blk : Nat} (q off : Nat) (d : Array UInt8) : OnlyAt blk w.heap.size w (putRow encB (Sort.ahead w q) blk off d) :=
  ⟨rfl, rfl, rfl, by rw [size_putRow]; exact Nat.le_refl _, fun k hk hs => by
    show (mapBlock _ _ _).heap[k]? = _
    unfold mapBlock
    simp only [Array.getElem?_modify, if_neg (Ne.symm hs)]
    rfl⟩

theorem perm_list {d d' : Array UInt8} (h : PermIn 0 d.size d d') : d'.size = d.size ∧ d'.toList.Perm d.toList := by
  obtain ⟨h1, _, h3⟩ := h
  refine ⟨h1, ?_⟩
  have e1 : d'.extract 0 d.size = d' := by rw [← h1]; exact Array.extract_size
  have e2 : d.extract 0 d.size = d := Array.extract_size
  rwa [e1, e2] at h3

set_option maxRecDepth 100000 in
set_option maxHeartbeats 2000000 in
theorem letters_any (B : List UInt8) (w : World) (hB : B.length ≤ 1000000) (HS : SortsN (B.filter fun c => !wildC c).length) :
    Calls Try.prog 34 #[.string (str B)] w fun e w' => e = .returned (.string (str (letL B))) ∧ Below w.heap.size w w' := by
  obtain ⟨S, hS⟩ : ∃ S, str B = S := ⟨_, rfl⟩
  rw [hS]
  have hSz : S.size = B.length := by rw [← hS, str_size]
  have hSB : S.data.toList = B := by rw [← hS, str_data]
  have hconv := run_bytes_of_string (P := Try.prog) w 9 68 5 S Try.underlying9 Try.underlying68 Try.underlying5
  obtain ⟨cap, hcap⟩ : ∃ cap, cap = grownCap w S.size 0 5 := ⟨_, rfl⟩
  have hcapS : S.size ≤ cap := by rw [hcap]; exact grownCap_ge w _ _ _
  rw [← hcap] at hconv
  clear hcap
  obtain ⟨W1, hW1⟩ : ∃ W1, W1 = (w.drew.alloc (.cells (bytesRow S cap) 5 ((bytesRow S cap).size, (bytesRow S cap).size + 1))) := ⟨_, rfl⟩
  have hH1 : Holds encB W1 w.heap.size 0 S.data := by
    intro j hj
    have hj' : j < S.size := hj
    have hb : j < (bytesRow S cap).size := by
      unfold bytesRow
      simp
      have : S.data.size = S.size := rfl
      omega
    subst hW1
    rw [Nat.zero_add]
    refine ⟨?_, ?_⟩
    · have := World.cell?_alloc_mark w.drew (bytesRow S cap) 5 ((bytesRow S cap).size, (bytesRow S cap).size + 1) j
      rw [show w.drew.heap.size = w.heap.size from rfl] at this
      rw [this, bytesRow_at S cap j hj', getElem!_pos S.data j hj]
      rfl
    · have := World.frozen?_alloc_mark w.drew (bytesRow S cap) 5 (bytesRow S cap).size ((bytesRow S cap).size + 1) j
      rw [show w.drew.heap.size = w.heap.size from rfl] at this
      rw [this]
      simp
      omega
  have hB1 : Below w.heap.size w W1 := by
    subst hW1
    exact (Below.refl _ w).drew.alloc (Nat.le_refl _) _
  have hz1 : w.heap.size < W1.heap.size := by subst hW1; rw [World.size_alloc]; exact Nat.lt_succ_self _
  rw [← hW1] at hconv
  clear hW1
  have eg : ∀ args w, (callFunc 50 args).run Try.prog w = .ok (.enter 50 args) w := enters_of Try.func50 (by kernel_rfl) rfl
  have C1 := AnyE.slices_DeleteFunc Try.laysDelB encB one_b wildC 50 #[] eg 0 zero_b w.heap.size 0 cap S.data W1 (fun W x _ => wild_gives x W) (fun n os dk x _ => wild_gives x _) hH1 (by show S.size ≤ _; omega) hcapS
  change Calls Try.prog 49 _ _ _ at C1
  rw [hSB] at C1
  obtain ⟨F, hF⟩ : ∃ F, (B.filter fun c => !wildC c) = F := ⟨_, rfl⟩
  rw [hF] at C1 HS
  have hFl : F.length ≤ S.size := by rw [hSz, ← hF]; exact List.length_filter_le _ _
  have C1' : Hid (Calls Try.prog 49 #[.slice (some ⟨w.heap.size, 0, none⟩) S.size cap, .func (.func 50) #[] #[]] W1 fun e w' => e = .returned (.slice (some ⟨w.heap.size, 0, none⟩) F.length cap) ∧ Holds encB w' w.heap.size 0 F.toArray ∧ Below w.heap.size w w') := Lib.hid (by
    refine C1.mono ?_
    rintro e w' ⟨rfl, q, rfl⟩
    refine ⟨rfl, ?_, hB1.trans ((putRow_only q 0 _).below (Nat.le_refl _) (by omega))⟩
    have hs : (F ++ List.replicate (S.data.size - F.length) (0 : UInt8)).toArray.size = S.data.size := by
      simp
      have : S.data.size = S.size := rfl
      omega
    refine holds_list (holds_putRow encB _ _ _ _ _ (holds_ahead encB W1 q _ _ _ hH1) hs) F (fun j hj => ⟨by simp; omega, ?_⟩)
    rw [arr_get _ (by simp; omega)]
    simp [List.getD, hj])
  have C2 : Hid (∀ w', Holds encB w' w.heap.size 0 F.toArray → Below w.heap.size w w' → Calls Try.prog 51 #[.slice (some ⟨w.heap.size, 0, none⟩) F.length cap] w' fun e w3 => e = .returned (.tuple #[]) ∧ Below w.heap.size w w3 ∧ ∃ d', Holds encB w3 w.heap.size 0 d' ∧ SortsU F.toArray d') := Lib.hid (fun w' h hb => by
    refine (HS w.heap.size cap F.toArray w' (by simp) h).mono ?_
    rintro e w3 ⟨rfl, d', h1, h2, h3⟩
    exact ⟨rfl, hb.trans (h3.below (Nat.le_refl _) hb.size), d', h1, h2⟩)
  have C3 : Hid (∀ w3 d', Holds encB w3 w.heap.size 0 d' → SortsU F.toArray d' → Below w.heap.size w w3 → Calls Try.prog 52 #[.slice (some ⟨w.heap.size, 0, none⟩) F.length cap] w3 fun e w4 => e = .returned (.slice (some ⟨w.heap.size, 0, none⟩) (letL B).length cap) ∧ (convert 68 9 (.slice (some ⟨w.heap.size, 0, none⟩) (letL B).length cap)).run Try.prog w4 = .ok (.string (str (letL B))) w4 ∧ Below w.heap.size w w4) := Lib.hid (fun w3 d' h hs hb => by
    obtain ⟨hp, hso⟩ := hs
    obtain ⟨e1, e2⟩ := perm_list hp
    have hds : d'.size = F.length := by rw [e1]; simp
    rw [show (F.toArray).size = d'.size from e1.symm] at hso
    have hc : Lib.compactUpTo d' d'.size = letL B := compact_let (by rw [hF]; simpa using e2) hso
    have := AnyE.slices_Compact Try.laysCompB encB one_b eql_b neq_b 0 zero_b w.heap.size 0 cap d' w3 h (by omega) (by omega)
    change Calls Try.prog 52 _ _ _ at this
    rw [hc, hds] at this
    have hle : (letL B).length ≤ F.length := by
      rw [← hc, ← hds]
      unfold Lib.compactUpTo
      rw [List.length_map]
      exact Nat.le_trans (List.length_filter_le _ _) (by simp)
    refine this.mono ?_
    rintro e w4 ⟨rfl, q, rfl⟩
    refine ⟨rfl, ?_, hb.trans ((putRow_only q 0 _).below (Nat.le_refl _) hb.size)⟩
    apply back_list
    have hs2 : (letL B ++ List.replicate (F.length - (letL B).length) (0 : UInt8)).toArray.size = d'.size := by simp; omega
    refine holds_list (holds_putRow encB _ _ _ _ _ (holds_ahead encB w3 q _ _ _ h) hs2) (letL B) (fun j hj => ⟨by simp; omega, ?_⟩)
    rw [arr_get _ (by simp; omega)]
    simp [List.getD, hj])
  obtain ⟨n, hn⟩ : ∃ n, F.length = n := ⟨_, rfl⟩
  obtain ⟨k, hk⟩ : ∃ k, (letL B).length = k := ⟨_, rfl⟩
  obtain ⟨R, hR⟩ : ∃ R, str (letL B) = R := ⟨_, rfl⟩
  rw [hn] at C1' C2 C3
  rw [hk, hR] at C3
  rw [hR]
  clear HS C1 hH1 hB1 hz1 hn hk hR hF hFl hSB hSz hS hcapS hB eg
  go_enter Try.func34, Try.ntmps34
  go_wp2_with fail
  refine C1'.out.mono ?_
  rintro e w2 ⟨rfl, h2, hb2⟩
  go_wp2_with fail
  refine (C2.out _ h2 hb2).mono ?_
  rintro e w3 ⟨rfl, hb3, d', h3, hs3⟩
  go_wp2_with fail
  refine (C3.out _ _ h3 hs3 hb3).mono ?_
  rintro e w4 ⟨rfl, hc4, hb4⟩
  clear C1' C2 C3 h2 h3 hs3 hb2 hb3
  go_wp2
  go_ret
  exact ⟨rfl, hb4⟩
end Go.Proofs.Ytchobpfdmkgnoaa
