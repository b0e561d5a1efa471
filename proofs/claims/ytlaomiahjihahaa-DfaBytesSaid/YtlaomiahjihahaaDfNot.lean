/-
  What is proved: what dfa.read, Check and Run return on tables that are not valid; how an argument that is a table is opened. What lay in memory before stands as it stood.
-/
import Derived.Test.YtlaomiahjihahaaDfApi
import Derived.Test.YtlaomiahjihahaaRows
import Derived.ProofKit
import Derived.OpenShut
import Derived.Deep.Matrix
import Derived.Deep.Grids
import Derived.Lib.SmallJoins
namespace Go.Proofs.Ytlaomiahjihahaa
open Go.RowKit Go.Shelf Go.Maps

set_option maxRecDepth 100000 in
set_option maxHeartbeats 2000000 in
theorem read_not {w : World} {cv nv av : Value} {cs : List Int} {rows : List (List Int)} {accs : List Bool} (h : DfaR w cv nv av cs rows accs) (hl : LightD cs rows accs) (hm : ¬ MayD cs rows accs) :
    Calls Try.prog 23 #[.agg #[cv, nv, av]] w fun e w' => e = .returned (.tuple #[.pointer none, .bool false]) ∧ Below w.heap.size w w' := by
  obtain ⟨ac, cc, hcv, _⟩ := h.cls.reads
  obtain ⟨an, cn, hnv, hrows⟩ := h.rows
  obtain ⟨aa, ca, hav, _⟩ := h.accs
  subst hcv hnv hav
  have HRow : Hid (∀ W, Below w.heap.size w W → ∀ j, j < rows.length → ∃ b off a cap, an = some ⟨b, off, none⟩ ∧ W.cell? ⟨b, off + j, none⟩ = some (.slice a (rows.getD j []).length cap) ∧ Ints W (.slice a (rows.getD j []).length cap) (rows.getD j [])) := Lib.hid (fun W hW j hj => by
    obtain ⟨b, off, x, e1, h1, h2, h3⟩ := hrows j hj
    have h3' := h3.below hW
    obtain ⟨a, cap, e, _⟩ := h3.reads
    subst e
    exact ⟨b, off, a, cap, e1, (hW.cell (p := ⟨b, off + j, none⟩) h1).trans h2, h3'⟩)
  have HCls : Hid (∀ W, Below w.heap.size w W → Calls Try.prog 38 #[.int .i64 ((rows.getD 0 []).length : Int), .slice ac cs.length cc] W fun e w' => e = .returned (.bool (areL (rows.getD 0 []).length cs)) ∧ w' = W) := Lib.hid (fun W hW => below_any (h.cls.below hW) hl.1 (rows.getD 0 []).length)
  have HRB : Hid (∀ j, j < rows.length → (rows.getD j []).length ≤ 1000000) := Lib.hid hl.2.2.2
  have HM : Hid (¬ MayD cs rows accs) := Lib.hid hm
  obtain ⟨k0, hk0⟩ : ∃ k0, (rows.getD 0 []).length = k0 := ⟨_, rfl⟩
  obtain ⟨n, hn⟩ : ∃ n, rows.length = n := ⟨_, rfl⟩
  obtain ⟨m, hmm⟩ : ∃ m, accs.length = m := ⟨_, rfl⟩
  obtain ⟨cl, hcl⟩ : ∃ cl, cs.length = cl := ⟨_, rfl⟩
  have HN := Lib.hid hn
  have HA := Lib.hid hmm
  have HC := Lib.hid hcl
  have HK := Lib.hid hk0
  rw [hn] at HRow HRB
  rw [hk0, hcl] at HCls
  rw [hn, hmm, hcl]
  have hb0 : Below w.heap.size w (w.alloc (.cells #[.slice ac cl cc, .slice an n cn, .slice aa m ca] 26)) := (Below.refl _ _).alloc (Nat.le_refl _) _
  have hb0' := Lib.hid hb0
  clear hrows hl hm h hn hk0 hmm hcl hb0
  by_cases z1 : (n : Int) < 1
  · have d1 : decide ((n : Int) < 1) = true := decide_eq_true z1
    go_enter Try.func23, Try.ntmps23
    go_wp2_with fail
    go_ret2
    exact ⟨rfl, hb0'.out⟩
  have d1 : decide ((n : Int) < 1) = false := decide_eq_false z1
  by_cases z2 : (256 : Int) < (n : Int)
  · have d2 : decide ((256 : Int) < (n : Int)) = true := decide_eq_true z2
    go_enter Try.func23, Try.ntmps23
    go_wp2_with fail
    go_ret2
    exact ⟨rfl, hb0'.out⟩
  have d2 : decide ((256 : Int) < (n : Int)) = false := decide_eq_false z2
  by_cases hmn : m = n
  case neg =>
    have z3 : ¬ ((m : Int) = (n : Int)) := by omega
    have d3 : ((m : Int) != (n : Int)) = true := bne_iff_ne.2 z3
    clear hmn
    go_enter Try.func23, Try.ntmps23
    go_wp2_with fail
    go_ret2
    exact ⟨rfl, hb0'.out⟩
  subst hmn
  obtain ⟨b0, o0, a0, p0, e0, x0, _⟩ := HRow.out _ hb0'.out 0 (by omega)
  subst e0
  rw [Nat.add_zero, HK.out] at x0
  by_cases hc : cl = 256
  case neg =>
    have z4 : ¬ ((cl : Int) = 256) := by omega
    have d4 : ((cl : Int) != 256) = true := bne_iff_ne.2 z4
    clear hc
    go_enter Try.func23, Try.ntmps23
    go_wp2_with fail
    go_ret2
    exact ⟨rfl, hb0'.out⟩
  subst hc
  obtain ⟨R, hR⟩ : ∃ R, areL k0 cs = R := ⟨_, rfl⟩
  rw [hR] at HCls
  cases R with
  | false =>
    clear hR
    go_enter Try.func23, Try.ntmps23
    go_wp2_with (go_at_call 38; refine (HCls.out _ hb0'.out).mono ?_; rintro e w' ⟨rfl, rfl⟩)
    go_ret2
    exact ⟨rfl, hb0'.out⟩
  | true =>
    replace hR := Lib.hid hR
    go_enter Try.func23, Try.ntmps23
    go_wp2_with (go_at_call 38; refine (HCls.out _ hb0'.out).mono ?_; rintro e w' ⟨rfl, rfl⟩)
    go_loopg [7, 43] m (fun gk s7 s43 wr => ∃ k : Nat, k + gk = m ∧ s43 = .int .i64 k ∧ wr = (w.alloc (.cells #[.slice ac 256 cc, .slice (some ⟨b0, o0, none⟩) m cn, .slice aa m ca] 26)) ∧ Hid (∀ j, j < k → (rows.getD j []).length = k0 ∧ areL m (rows.getD j []) = true))
    case atStart => exact ⟨0, by omega, rfl, rfl, Lib.hid (fun j hj => absurd hj (Nat.not_lt_zero j))⟩
    case round =>
      obtain ⟨k, hkg, rfl, rfl, HI⟩ := hrel
      clear x0
      cases gk with
      | zero =>
        refine absurd ?_ HM.out
        have hn := HN.out
        refine ⟨by omega, by omega, by rw [HA.out, HN.out], HC.out, by rw [HK.out]; exact hR.out, fun j hj => ?_⟩
        have := HI.out j (by omega)
        rw [HK.out, HN.out]
        exact this
      | succ g' =>
        have hkz : (k : Int) < (m : Int) := by omega
        have hkn : k < m := by omega
        obtain ⟨b1, o1, a1, p1, e1, x1, i1⟩ := HRow.out _ hb0'.out k hkn
        have e2 : b0 = b1 := by injection e1 with e1; injection e1
        have e3 : o0 = o1 := by injection e1 with e1; injection e1
        subst e2 e3
        have hL := HRB.out k hkn
        have CB := Lib.hid (below_any i1 hL m)
        clear i1 e1
        obtain ⟨row, hrow⟩ : ∃ row, rows.getD k [] = row := ⟨_, rfl⟩
        rw [hrow] at x1 CB
        replace hrow := Lib.hid hrow
        clear hL
        obtain ⟨L, hLe⟩ : ∃ L, row.length = L := ⟨_, rfl⟩
        rw [hLe] at x1 CB
        replace hLe := Lib.hid hLe
        by_cases hLk : L = k0
        · subst hLk
          obtain ⟨R2, hR2⟩ : ∃ R2, areL m row = R2 := ⟨_, rfl⟩
          rw [hR2] at CB
          cases R2 with
          | false =>
            clear hR2
            go_wp2_with (go_at_call 38; refine CB.out.mono ?_; rintro e w' ⟨rfl, rfl⟩)
            try rw [Exit.noGoto_ret]
            go_ret2
            exact ⟨rfl, hb0'.out⟩
          | true =>
            replace hR2 := Lib.hid hR2
            go_wp2_with (go_at_call 38; refine CB.out.mono ?_; rintro e w' ⟨rfl, rfl⟩)
            go_roundg g'
            case measure => omega
            case rel => exact ⟨k + 1, by omega, iv (by omega), rfl, Lib.hid (fun j hj => by
              by_cases e : j = k
              · subst e; rw [hrow.out]; exact ⟨hLe.out, hR2.out⟩
              · exact HI.out j (by omega))⟩
        · have z5 : ¬ ((L : Int) = (k0 : Int)) := by omega
          have d5 : ((L : Int) != (k0 : Int)) = true := bne_iff_ne.2 z5
          clear hLk
          go_wp2_with fail
          try rw [Exit.noGoto_ret]
          go_ret2
          exact ⟨rfl, hb0'.out⟩
end Go.Proofs.Ytlaomiahjihahaa
