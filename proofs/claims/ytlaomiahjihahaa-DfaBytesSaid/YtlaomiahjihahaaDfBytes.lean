/-
  What is proved: outlawlaw09.DfaBytes returns true at any table and strings: bytes of one class lead to the same state. No conditions.
-/
import Derived.Test.YtlaomiahjihahaaDfOpen
namespace Go.Proofs.Ytlaomiahjihahaa
open Go.RowKit Go.Shelf Go.Maps

/-- The cells of a block: the first k as g has them, the others those of s. -/
def MixCells (w : World) (B : Nat) (s : ByteArray) (g : Nat → UInt8) (k : Nat) : Prop :=
  ∀ (j : Nat) (h : j < s.size), w.cell? ⟨B, j, none⟩ = some (.int .u8 ((if j < k then g j else s[j]'h).toNat : Int)) ∧ w.frozen? ⟨B, j, none⟩ = false
theorem MixCells.step {w : World} {B : Nat} {s : ByteArray} {g : Nat → UInt8} {k : Nat} (h : MixCells w B s g k) (hk : k < s.size) :
    MixCells (w.setCell ⟨B, k, none⟩ (.int .u8 ((g k).toNat : Int))) B s g (k + 1) := by
  intro j hj
  obtain ⟨h1, h2⟩ := h j hj
  by_cases e : j = k
  · subst e
    refine ⟨?_, by rw [World.frozen?_setCell]; exact h2⟩
    rw [World.cell?_setCell_same _ _ _ h1, if_pos (by omega)]
  · refine ⟨?_, by rw [World.frozen?_setCell]; exact h2⟩
    rw [World.cell?_setCell_other _ _ _ _ (by intro h; injection h with _ h; exact e h.symm), h1]
    by_cases hjk : j < k
    · rw [if_pos hjk, if_pos (by omega)]
    · rw [if_neg hjk, if_neg (by omega)]
theorem MixCells.stay {w : World} {B : Nat} {s : ByteArray} {g : Nat → UInt8} {k : Nat} (h : MixCells w B s g k) (hk : k < s.size) (hc : g k = s[k]) : MixCells w B s g (k + 1) := by
  intro j hj
  obtain ⟨h1, h2⟩ := h j hj
  refine ⟨?_, h2⟩
  rw [h1]
  by_cases e : j = k
  · subst e; rw [if_neg (by omega), if_pos (by omega), hc]
  · by_cases hjk : j < k
    · rw [if_pos hjk, if_pos (by omega)]
    · rw [if_neg hjk, if_neg (by omega)]
theorem MixCells.below {w W : World} {B : Nat} {s : ByteArray} {g : Nat → UInt8} {k : Nat} (h : MixCells w B s g k) (hB : B < w.heap.size) (hb : Below w.heap.size w W) : MixCells W B s g k := fun j hj => by
  obtain ⟨h1, h2⟩ := h j hj
  exact ⟨(hb.cell (p := ⟨B, j, none⟩) hB).trans h1, (hb.frozen (p := ⟨B, j, none⟩) hB).trans h2⟩
/-- What is laid for a string's bytes. -/
theorem mix_conv (s : ByteArray) (g : Nat → UInt8) (w : World) : ∃ cap W, (convert 9 42 (.string s)).run Try.prog w = .ok (.slice (some ⟨w.heap.size, 0, none⟩) s.size cap) W ∧ MixCells W w.heap.size s g 0 ∧ Below w.heap.size w W ∧ w.heap.size < W.heap.size := by
  have hconv := run_bytes_of_string (P := Try.prog) w 9 42 5 s Try.underlying9 Try.underlying42 Try.underlying5
  obtain ⟨cap, hcap⟩ : ∃ cap, cap = grownCap w s.size 0 5 := ⟨_, rfl⟩
  rw [← hcap] at hconv
  refine ⟨cap, _, hconv, ?_, (Below.refl _ w).drew.alloc (Nat.le_refl _) _, by simp⟩
  intro j hj
  have hb : j < (bytesRow s cap).size := by
    unfold bytesRow
    simp
    have : s.data.size = s.size := rfl
    omega
  refine ⟨?_, ?_⟩
  · have := World.cell?_alloc_mark w.drew (bytesRow s cap) 5 ((bytesRow s cap).size, (bytesRow s cap).size + 1) j
    rw [show w.drew.heap.size = w.heap.size from rfl] at this
    rw [this, bytesRow_at s cap j hj]
    rfl
  · have := World.frozen?_alloc_mark w.drew (bytesRow s cap) 5 (bytesRow s cap).size ((bytesRow s cap).size + 1) j
    rw [show w.drew.heap.size = w.heap.size from rfl] at this
    rw [this]
    simp
    omega
/-- What is read back. -/
def mixS (s : ByteArray) (g : Nat → UInt8) : ByteArray := str ((List.range s.size).map g)
theorem mix_back {W : World} {B : Nat} {s : ByteArray} {g : Nat → UInt8} (h : MixCells W B s g s.size) (cap : Nat) : (convert 42 9 (.slice (some ⟨B, 0, none⟩) s.size cap)).run Try.prog W = .ok (.string (mixS s g)) W := by
  have hl : ((List.range s.size).map g).length = s.size := by simp
  have := run_convert_bytes_back (P := Try.prog) W 42 9 5 ⟨B, 0, none⟩ cap ((List.range s.size).map g) Try.underlying42 Try.underlying5 Try.underlying9 (fun j hj => by
    have hj' : j < s.size := by omega
    have := (h j hj').1
    rw [if_pos hj'] at this
    have ea : (⟨B, 0, none⟩ : Addr).add j = ⟨B, j, none⟩ := by unfold Addr.add; split <;> simp_all
    rw [ea, this]
    simp)
  rw [hl] at this
  exact this
theorem runN_map (rows : List (List Int)) (cl : UInt8 → Nat) : ∀ (t u : List UInt8) (s : Nat), t.map cl = u.map cl → runN rows cl t s = runN rows cl u s
  | [], [], _, _ => rfl
  | [], _ :: _, _, h => by simp at h
  | _ :: _, [], _, h => by simp at h
  | c :: t, d :: u, s, h => by
    simp only [List.map_cons, List.cons.injEq] at h
    show runN rows cl t (stepN rows s (cl c)) = runN rows cl u (stepN rows s (cl d))
    rw [h.1]
    exact runN_map rows cl t u _ h.2

/-- The byte at j in what is run: that of b where it is of a's class. -/
def mixC (cl : UInt8 → Nat) (a b : ByteArray) (j : Nat) : UInt8 :=
  if ha : j < a.size then (if hb : j < b.size then (if cl a[j] = cl b[j] then b[j] else a[j]) else a[j]) else 0
theorem mixC_cl (cl : UInt8 → Nat) (a b : ByteArray) (j : Nat) (ha : j < a.size) : cl (mixC cl a b j) = cl a[j] := by
  unfold mixC
  rw [dif_pos ha]
  by_cases hb : j < b.size
  · rw [dif_pos hb]
    by_cases h : cl a[j] = cl b[j]
    · rw [if_pos h, h]
    · rw [if_neg h]
  · rw [dif_neg hb]
theorem mix_run (rows : List (List Int)) (cl : UInt8 → Nat) (a b : ByteArray) (s : Nat) : runN rows cl (mixS a (mixC cl a b)).data.toList s = runN rows cl a.data.toList s := by
  apply runN_map
  apply List.ext_getElem
  · simp [mixS, str]
  · intro j h1 h2
    have hj : j < a.size := by simpa using h2
    have : cl (mixC cl a b j) = cl (a.data[j]) := mixC_cl cl a b j hj
    simpa [mixS, str] using this

theorem lightB_D {cs : List Int} {rows : List (List Int)} {accs : List Bool} (h : lightB cs rows accs = true) : LightD cs rows accs := by
  unfold lightB at h
  simp only [Bool.and_eq_true, decide_eq_true_eq, List.all_eq_true] at h
  obtain ⟨h1, ⟨h2, h3⟩, h4⟩ := h
  refine ⟨by omega, by omega, by omega, fun j hj => ?_⟩
  have := h1 (rows.getD j []) (by simp [List.getD, hj])
  omega

set_option maxRecDepth 100000 in
set_option maxHeartbeats 4000000 in
theorem bytes_any {w : World} {cv nv av : Value} {cs : List Int} {rows : List (List Int)} {accs : List Bool} (h : DfaR w cv nv av cs rows accs) (hn : rows.length ≤ 9223372036854775807) (a b : ByteArray) :
    Calls Try.prog 5 #[.agg #[cv, nv, av], .string a, .string b] w fun e w' => e = .returned (.bool true) ∧ Below w.heap.size w w' := by
  obtain ⟨ac, cc, hcv, hcr⟩ := h.cls.reads
  obtain ⟨an, cn, hnv, _⟩ := h.rows
  obtain ⟨aa, ca, hav, _⟩ := h.accs
  subst hcv hnv hav
  have CL0 := Lib.hid lives_any
  obtain ⟨WD, hWD⟩ : ∃ WD, w.alloc (.cells #[.slice ac cs.length cc, .slice an rows.length cn, .slice aa accs.length ca] 26) = WD := ⟨_, rfl⟩
  have hba : Below w.heap.size w WD := by rw [← hWD]; exact (Below.refl _ _).alloc (Nat.le_refl _) _
  have hsz : WD.heap.size = w.heap.size + 1 := by rw [← hWD]; unfold World.alloc; exact Array.size_push ..
  have hD : WD.heap[w.heap.size]? = some (.cells #[.slice ac cs.length cc, .slice an rows.length cn, .slice aa accs.length ca] 26 (0, 0)) := by rw [← hWD]; exact World.alloc_heap_new w _
  have hs1 : ∀ W, Below WD.heap.size WD W → Below w.heap.size w W := fun W hW => hba.trans (hW.mono hba.size)
  have RD : Hid (∀ W, Below WD.heap.size WD W → W.cell? ⟨w.heap.size, 0, none⟩ = some (.slice ac cs.length cc) ∧ W.cell? ⟨w.heap.size, 1, none⟩ = some (.slice an rows.length cn) ∧ W.cell? ⟨w.heap.size, 2, none⟩ = some (.slice aa accs.length ca)) := Lib.hid (fun W hW => by
    have hh := (hW.block w.heap.size (by omega)).trans hD
    exact ⟨by rw [cell_heap hh]; rfl, by rw [cell_heap hh]; rfl, by rw [cell_heap hh]; rfl⟩)
  have CL : Hid (∀ W, Below WD.heap.size WD W → Calls Try.prog 9 #[] W fun e w' => e = .returned (.bool true) ∧ Below WD.heap.size WD w') := Lib.hid (fun W hW => (CL0.out W).mono fun _ _ ⟨h1, h2⟩ => ⟨h1, hW.trans (h2.mono hW.size)⟩)
  have CD : Hid (∀ W, Below WD.heap.size WD W → Calls Try.prog 17 #[.agg #[.slice ac cs.length cc, .slice an rows.length cn, .slice aa accs.length ca]] W fun e w' => e = .returned (.bool (lightB cs rows accs)) ∧ Below WD.heap.size WD w') := Lib.hid (fun W hW => (lightD_any (h.below (hs1 W hW)) hn).mono fun _ _ ⟨h1, h2⟩ => ⟨h1, hW.trans (h2.mono hW.size)⟩)
  have HF : Hid (∀ W, Below WD.heap.size WD W → Below w.heap.size w W) := Lib.hid hs1
  have hb0 : Below WD.heap.size WD WD := Below.refl _ _
  obtain ⟨x0, x1, x2⟩ := RD.out WD hb0
  by_cases hL : lightB cs rows accs = true
  case neg =>
    have hL' : lightB cs rows accs = false := by simpa using hL
    rw [hL'] at CD
    clear hL hL' h hcr hba hD hs1 CL0
    go_enter Try.func5, Try.ntmps5
    go_wp2_with (first
      | (go_at_call 9; refine (CL.out _ (by first | exact hb0 | (rw [hWD]; exact hb0))).mono ?_; rintro e w1 ⟨rfl, hb1⟩; obtain ⟨k0, k1, k2⟩ := RD.out w1 hb1)
      | (go_at_call 17; refine (CD.out _ hb1).mono ?_; rintro e w2 ⟨rfl, hb2⟩; obtain ⟨k0', k1', k2'⟩ := RD.out w2 hb2))
    go_ret
    exact ⟨rfl, HF.out _ hb2⟩
  have hLD := lightB_D hL
  rw [hL] at CD
  by_cases ha : (200 : Int) < (a.size : Int)
  · clear hL h hcr hba hD hs1 CL0 hLD
    go_enter Try.func5, Try.ntmps5
    go_wp2_with (first
      | (go_at_call 9; refine (CL.out _ (by first | exact hb0 | (rw [hWD]; exact hb0))).mono ?_; rintro e w1 ⟨rfl, hb1⟩; obtain ⟨k0, k1, k2⟩ := RD.out w1 hb1)
      | (go_at_call 17; refine (CD.out _ hb1).mono ?_; rintro e w2 ⟨rfl, hb2⟩; obtain ⟨k0', k1', k2'⟩ := RD.out w2 hb2))
    go_ret
    exact ⟨rfl, HF.out _ hb2⟩
  by_cases hb : (200 : Int) < (b.size : Int)
  · clear hL h hcr hba hD hs1 CL0 hLD
    go_enter Try.func5, Try.ntmps5
    go_wp2_with (first
      | (go_at_call 9; refine (CL.out _ (by first | exact hb0 | (rw [hWD]; exact hb0))).mono ?_; rintro e w1 ⟨rfl, hb1⟩; obtain ⟨k0, k1, k2⟩ := RD.out w1 hb1)
      | (go_at_call 17; refine (CD.out _ hb1).mono ?_; rintro e w2 ⟨rfl, hb2⟩; obtain ⟨k0', k1', k2'⟩ := RD.out w2 hb2))
    go_ret
    exact ⟨rfl, HF.out _ hb2⟩
  by_cases hM : MayD cs rows accs
  case neg =>
    have CC : Hid (∀ W, Below WD.heap.size WD W → Calls Try.prog 10 #[.agg #[.slice ac cs.length cc, .slice an rows.length cn, .slice aa accs.length ca]] W fun e w' => e = .returned (.int .i64 2) ∧ Below WD.heap.size WD w') := Lib.hid (fun W hW => (check_not (h.below (hs1 W hW)) hLD hM).mono fun _ _ ⟨h1, h2⟩ => ⟨h1, hW.trans (h2.mono hW.size)⟩)
    clear hL h hcr hba hD hs1 CL0 hLD hM
    go_enter Try.func5, Try.ntmps5
    go_wp2_with (first
      | (go_at_call 9; refine (CL.out _ (by first | exact hb0 | (rw [hWD]; exact hb0))).mono ?_; rintro e w1 ⟨rfl, hb1⟩; obtain ⟨k0, k1, k2⟩ := RD.out w1 hb1)
      | (go_at_call 17; refine (CD.out _ hb1).mono ?_; rintro e w2 ⟨rfl, hb2⟩; obtain ⟨k0', k1', k2'⟩ := RD.out w2 hb2)
      | (go_at_call 10; refine (CC.out _ hb2).mono ?_; rintro e w3 ⟨rfl, hb3⟩))
    go_ret
    exact ⟨rfl, HF.out _ hb3⟩
  have CC : Hid (∀ W, Below WD.heap.size WD W → Calls Try.prog 10 #[.agg #[.slice ac cs.length cc, .slice an rows.length cn, .slice aa accs.length ca]] W fun e w' => e = .returned (.int .i64 0) ∧ Below WD.heap.size WD w') := Lib.hid (fun W hW => (check_ok (h.below (hs1 W hW)) hLD hM).mono fun _ _ ⟨h1, h2⟩ => ⟨h1, hW.trans (h2.mono hW.size)⟩)
  have CR : Hid (∀ W (s : ByteArray), Below WD.heap.size WD W → s.size ≤ 1000000 → Calls Try.prog 18 #[.agg #[.slice ac cs.length cc, .slice an rows.length cn, .slice aa accs.length ca], .string s] W fun e w' => e = .returned (.bool (accs.getD (runN rows (fun c => clsD cs c.toNat) s.data.toList 0) false)) ∧ Below W.heap.size W w') := Lib.hid (fun W s hW hsl => run_ok (h.below (hs1 W hW)) hLD hM s hsl)
  obtain ⟨g, hg⟩ : ∃ g, mixC (fun c => clsD cs c.toNat) a b = g := ⟨_, rfl⟩
  have HCV : Hid (∀ W3, Below WD.heap.size WD W3 → ∃ cap W, (convert 9 42 (.string a)).run Try.prog W3 = .ok (.slice (some ⟨W3.heap.size, 0, none⟩) a.size cap) W ∧ Hid (MixCells W W3.heap.size a g 0) ∧ Below WD.heap.size WD W ∧ Hid (W3.heap.size < W.heap.size) ∧ Hid (WD.heap.size ≤ W3.heap.size)) := Lib.hid (fun W3 hW => by
    obtain ⟨cap, W, h1, h2, h3, h4⟩ := mix_conv a g W3
    exact ⟨cap, W, h1, Lib.hid h2, hW.trans (h3.mono hW.size), Lib.hid h4, Lib.hid hW.size⟩)
  have hcl := hM.len
  have HRA : Hid (runN rows (fun c => clsD cs c.toNat) (mixS a g).data.toList 0 = runN rows (fun c => clsD cs c.toNat) a.data.toList 0) := Lib.hid (by rw [← hg]; exact mix_run _ _ _ _ _)
  have HCell : Hid (∀ W, Below WD.heap.size WD W → ∃ bc oc, ac = some ⟨bc, oc, none⟩ ∧ ∀ c : UInt8, W.cell? ⟨bc, oc + c.toNat, none⟩ = some (.int .i64 (clsD cs c.toNat : Int))) := Lib.hid (fun W hW => by
    obtain ⟨b0, o0, e0, _⟩ := hcr.out W (hs1 W hW) 0 (by omega)
    refine ⟨b0, o0, e0, fun c => ?_⟩
    obtain ⟨b1, o1, e1, h1⟩ := hcr.out W (hs1 W hW) c.toNat (by rw [hcl]; exact c.toNat_lt)
    rw [e0] at e1
    injection e1 with e1
    injection e1 with e1 e2
    subst e1 e2
    rw [h1]
    have := areL_at hM.cls (k := c.toNat) (by rw [hcl]; exact c.toNat_lt)
    unfold clsD
    congr 2
    omega)
  have HG : Hid (∀ j (hja : j < a.size), (∀ hjb : j < b.size, g j = if clsD cs a[j].toNat = clsD cs b[j].toNat then b[j] else a[j]) ∧ (¬ j < b.size → g j = a[j])) := Lib.hid (fun j hja => by
    rw [← hg]
    refine ⟨fun hjb => ?_, fun hjb => ?_⟩
    · unfold mixC; rw [dif_pos hja, dif_pos hjb]
    · unfold mixC; rw [dif_pos hja, dif_neg hjb])
  rw [hcl] at RD CD CC CR x0 hWD
  rw [hcl]
  clear hL h hcr hba hD hs1 CL0 hLD hM hg hcl
  go_enter Try.func5, Try.ntmps5
  go_wp2_with (first
    | (go_at_call 9; refine (CL.out _ (by first | exact hb0 | (rw [hWD]; exact hb0))).mono ?_; rintro e w1 ⟨rfl, hb1⟩; obtain ⟨k0, k1, k2⟩ := RD.out w1 hb1)
    | (go_at_call 17; refine (CD.out _ hb1).mono ?_; rintro e w2 ⟨rfl, hb2⟩; obtain ⟨k0', k1', k2'⟩ := RD.out w2 hb2)
    | (go_at_call 10; refine (CC.out _ hb2).mono ?_; rintro e w3 ⟨rfl, hb3⟩; obtain ⟨cap, W, hconv, HL, HB, hlt, hle⟩ := HCV.out w3 hb3; obtain ⟨y0, y1, y2⟩ := RD.out W HB))
  obtain ⟨m, hm⟩ : ∃ m, min a.size b.size = m := ⟨_, rfl⟩
  have hma : m ≤ a.size := by omega
  have hmb : m ≤ b.size := by omega
  have hmm : m = a.size ∨ m = b.size := by omega
  have HB' : Hid (Below WD.heap.size WD W) := Lib.hid HB
  clear hm HB hb1 hb2 hb3 k0 k1 k2 k0' k1' k2' CL CD CC HCV hconv hb0 x0 x1 x2 y0 y1 y2 hsz hWD
  go_loopg [8] m (fun gk s8 wr => ∃ k : Nat, k + gk = m ∧ s8 = .int .i64 k ∧ Hid (MixCells wr w3.heap.size a g k) ∧ Hid (Below WD.heap.size WD wr) ∧ Hid (w3.heap.size < wr.heap.size))
  case atStart => exact ⟨0, by omega, rfl, HL, HB', hlt⟩
  case round =>
    obtain ⟨k, hkg, rfl, HI, HW, HZ⟩ := hrel
    cases gk with
    | zero =>
      have hkm : k = m := by omega
      subst hkm
      have HI2 : Hid (MixCells wr w3.heap.size a g a.size) := Lib.hid (fun j hj => by
        obtain ⟨h1, h2⟩ := HI.out j hj
        refine ⟨?_, h2⟩
        rw [if_pos hj, h1]
        by_cases hjk : j < k
        · rw [if_pos hjk]
        · rw [if_neg hjk, (HG.out j hj).2 (by omega)])
      have HBK : Hid (∀ W', Below wr.heap.size wr W' → (convert 42 9 (.slice (some ⟨w3.heap.size, 0, none⟩) a.size cap)).run Try.prog W' = .ok (.string (mixS a g)) W') := Lib.hid (fun W' hW' => mix_back (HI2.out.below HZ.out hW') cap)
      have hms : Hid ((mixS a g).size ≤ 1000000) := Lib.hid (by unfold mixS; rw [str_size]; simp; omega)
      have HRD : Hid (∀ W', Below wr.heap.size wr W' → W'.cell? ⟨w.heap.size, 0, none⟩ = some (.slice ac 256 cc) ∧ W'.cell? ⟨w.heap.size, 1, none⟩ = some (.slice an rows.length cn) ∧ W'.cell? ⟨w.heap.size, 2, none⟩ = some (.slice aa accs.length ca)) := Lib.hid (fun W' hW' => RD.out W' (HW.out.trans (hW'.mono HW.out.size)))
      obtain ⟨F, hF⟩ : ∃ F, accs.getD (runN rows (fun c => clsD cs c.toNat) a.data.toList 0) false = F := ⟨_, rfl⟩
      have CA : Hid (∀ W', Below wr.heap.size wr W' → Calls Try.prog 18 #[.agg #[.slice ac 256 cc, .slice an rows.length cn, .slice aa accs.length ca], .string a] W' fun e w' => e = .returned (.bool F) ∧ Below wr.heap.size wr w') := Lib.hid (fun W' hW' => by
        have := CR.out W' a (HW.out.trans (hW'.mono HW.out.size)) (by omega)
        rw [hF] at this
        exact this.mono fun _ _ ⟨h1, h2⟩ => ⟨h1, hW'.trans (h2.mono hW'.size)⟩)
      have CB : Hid (∀ W', Below wr.heap.size wr W' → Calls Try.prog 18 #[.agg #[.slice ac 256 cc, .slice an rows.length cn, .slice aa accs.length ca], .string (mixS a g)] W' fun e w' => e = .returned (.bool F) ∧ Below wr.heap.size wr w') := Lib.hid (fun W' hW' => by
        have := CR.out W' (mixS a g) (HW.out.trans (hW'.mono HW.out.size)) hms.out
        rw [HRA.out, hF] at this
        exact this.mono fun _ _ ⟨h1, h2⟩ => ⟨h1, hW'.trans (h2.mono hW'.size)⟩)
      have HFin : Hid (∀ W', Below wr.heap.size wr W' → Below w.heap.size w W') := Lib.hid (fun W' hW' => HF.out W' (HW.out.trans (hW'.mono HW.out.size)))
      have hbr : Below wr.heap.size wr wr := Below.refl _ _
      obtain ⟨y0, y1, y2⟩ := HRD.out wr hbr
      have hk0 := HBK.out wr hbr
      obtain ⟨T, hT⟩ : ∃ T, mixS a g = T := ⟨_, rfl⟩
      rw [hT] at CB HBK hk0
      have zz : k < a.size ∨ ¬ k < a.size := Classical.em _
      clear hF hT HRA CR HI HI2 HG HCell hms
      have hbd : Below wr.heap.size wr wr.drew := (Below.refl _ _).drew
      have RS : Hid (∀ W', Below wr.heap.size wr W' → W'.cell? ⟨w.heap.size, 0, none⟩ = some (.slice ac 256 cc) ∧ W'.cell? ⟨w.heap.size, 1, none⟩ = some (.slice an rows.length cn) ∧ W'.cell? ⟨w.heap.size, 2, none⟩ = some (.slice aa accs.length ca) ∧ (convert 42 9 (.slice (some ⟨w3.heap.size, 0, none⟩) a.size cap)).run Try.prog W' = .ok (.string T) W') := Lib.hid (fun W' hW' => by
        obtain ⟨q0, q1, q2⟩ := HRD.out W' hW'
        exact ⟨q0, q1, q2, HBK.out W' hW'⟩)
      clear HRD HBK
      rcases zz with z | z
      · have z1 : (k : Int) < (a.size : Int) := by omega
        have z2 : ¬ ((k : Int) < (b.size : Int)) := by omega
        have d1 : decide ((k : Int) < (a.size : Int)) = true := decide_eq_true z1
        have d2 : decide ((k : Int) < (b.size : Int)) = false := decide_eq_false z2
        go_wp2_with fail
        go_region_held3 (fun w' => w'.cell? ⟨w.heap.size, 0, none⟩ = some (.slice ac 256 cc) ∧ w'.cell? ⟨w.heap.size, 1, none⟩ = some (.slice an rows.length cn) ∧ w'.cell? ⟨w.heap.size, 2, none⟩ = some (.slice aa accs.length ca) ∧ (convert 42 9 (.slice (some ⟨w3.heap.size, 0, none⟩) a.size cap)).run Try.prog w' = .ok (.string T) w')
          (exact RS.out _ (by assumption))
          (first
            | (go_at_call_of 18 a; refine (CA.out _ (by assumption)).mono ?_; rintro e w5 ⟨rfl, hb5⟩)
            | (go_at_call_of 18 T; refine (CB.out _ (by assumption)).mono ?_; rintro e w6 ⟨rfl, hb6⟩))
        all_goals
          go_wp2_with fail
          go_ret
          exact ⟨by simp, HFin.out _ hb6⟩
      · have z1 : ¬ ((k : Int) < (a.size : Int)) := by omega
        have d1 : decide ((k : Int) < (a.size : Int)) = false := decide_eq_false z1
        go_wp2_with fail
        go_region_held3 (fun w' => w'.cell? ⟨w.heap.size, 0, none⟩ = some (.slice ac 256 cc) ∧ w'.cell? ⟨w.heap.size, 1, none⟩ = some (.slice an rows.length cn) ∧ w'.cell? ⟨w.heap.size, 2, none⟩ = some (.slice aa accs.length ca) ∧ (convert 42 9 (.slice (some ⟨w3.heap.size, 0, none⟩) a.size cap)).run Try.prog w' = .ok (.string T) w')
          (exact RS.out _ (by assumption))
          (first
            | (go_at_call_of 18 a; refine (CA.out _ (by assumption)).mono ?_; rintro e w5 ⟨rfl, hb5⟩)
            | (go_at_call_of 18 T; refine (CB.out _ (by assumption)).mono ?_; rintro e w6 ⟨rfl, hb6⟩))
        all_goals
          go_wp2_with fail
          go_ret
          exact ⟨by simp, HFin.out _ hb6⟩
    | succ g' =>
      have hka : k < a.size := by omega
      have hkb : k < b.size := by omega
      have za : (k : Int) < (a.size : Int) := by omega
      have zb : (k : Int) < (b.size : Int) := by omega
      have da : decide ((k : Int) < (a.size : Int)) = true := decide_eq_true za
      have db : decide ((k : Int) < (b.size : Int)) = true := decide_eq_true zb
      obtain ⟨bc, oc, rfl, hcell⟩ := HCell.out wr HW.out
      have c1 := hcell (a[k]'hka)
      have c2 := hcell (b[k]'hkb)
      have hc0 := (HI.out k hka).1
      rw [if_neg (by omega)] at hc0
      have hf0 := (HI.out k hka).2
      have ua := (a[k]'hka).toNat_lt
      have ub := (b[k]'hkb).toNat_lt
      have ia0 : (0 : Int) ≤ ((a[k]'hka).toNat : Int) := by omega
      have ia1 : ((a[k]'hka).toNat : Int) < 256 := by omega
      have ib0 : (0 : Int) ≤ ((b[k]'hkb).toNat : Int) := by omega
      have ib1 : ((b[k]'hkb).toNat : Int) < 256 := by omega
      have ik0 : (0 : Int) ≤ (k : Int) := by omega
      have y0 := (RD.out wr HW.out).1
      have hgk := (HG.out k hka).1 hkb
      obtain ⟨p, hp⟩ : ∃ p, clsD cs (a[k]'hka).toNat = p := ⟨_, rfl⟩
      obtain ⟨q, hq⟩ : ∃ q, clsD cs (b[k]'hkb).toNat = q := ⟨_, rfl⟩
      rw [hp] at c1 hgk
      rw [hq] at c2 hgk
      clear hp hq hcell
      by_cases hpq : p = q
      · rw [if_pos hpq] at hgk
        subst hpq
        have HS : Hid (MixCells (wr.setCell ⟨w3.heap.size, k, none⟩ (.int .u8 ((b[k]'hkb).toNat : Int))) w3.heap.size a g (k + 1)) := Lib.hid (by rw [← hgk]; exact HI.out.step hka)
        have HW2 : Hid (Below WD.heap.size WD (wr.setCell ⟨w3.heap.size, k, none⟩ (.int .u8 ((b[k]'hkb).toNat : Int)))) := Lib.hid (HW.out.setCell (p := ⟨w3.heap.size, k, none⟩) hle.out _)
        have HZ2 : Hid (w3.heap.size < (wr.setCell ⟨w3.heap.size, k, none⟩ (.int .u8 ((b[k]'hkb).toNat : Int))).heap.size) := Lib.hid (by simp [World.setCell]; exact HZ.out)
        clear hgk
        go_wp2_with fail
        go_region_held3 (fun w' => w'.cell? ⟨w.heap.size, 0, none⟩ = some (.slice (some ⟨bc, oc, none⟩) 256 cc) ∧ w'.cell? ⟨w3.heap.size, k, none⟩ = some (.int .u8 ((a[k]'hka).toNat : Int)) ∧ w'.cell? ⟨bc, oc + (a[k]'hka).toNat, none⟩ = some (.int .i64 (p : Int)) ∧ w'.cell? ⟨bc, oc + (b[k]'hkb).toNat, none⟩ = some (.int .i64 (p : Int)))
          (exact ⟨y0, hc0, c1, c2⟩) (fail)
        all_goals
          go_wp2_with fail
          go_roundg g'
          case measure => omega
          case rel => exact ⟨k + 1, by omega, iv (by omega), HS, (by first | exact HW2 | exact Lib.hid HW2.out.drew), HZ2⟩
      · have z5 : ¬ ((p : Int) = (q : Int)) := by omega
        rw [if_neg hpq] at hgk
        have HS : Hid (MixCells wr w3.heap.size a g (k + 1)) := Lib.hid (HI.out.stay hka hgk)
        clear hgk hpq
        go_wp2_with fail
        go_region_held3 (fun w' => w'.cell? ⟨w.heap.size, 0, none⟩ = some (.slice (some ⟨bc, oc, none⟩) 256 cc) ∧ w'.cell? ⟨w3.heap.size, k, none⟩ = some (.int .u8 ((a[k]'hka).toNat : Int)) ∧ w'.cell? ⟨bc, oc + (a[k]'hka).toNat, none⟩ = some (.int .i64 (p : Int)) ∧ w'.cell? ⟨bc, oc + (b[k]'hkb).toNat, none⟩ = some (.int .i64 (q : Int)))
          (exact ⟨y0, hc0, c1, c2⟩) (fail)
        all_goals
          go_wp2_with fail
          go_roundg g'
          case measure => omega
          case rel => exact ⟨k + 1, by omega, iv (by omega), HS, (by first | exact HW | exact Lib.hid HW.out.drew), HZ⟩
end Go.Proofs.Ytlaomiahjihahaa
