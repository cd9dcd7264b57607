/- RankRuns is true: the statement Rows.RankRunsSaid, without a condition. -/
import Derived.Test.YtffpggdbmfidcaaTwo
import Derived.Deep.RegionHeld3
import Derived.Deep.CutBlock
import Derived.Deep.Slices
import Derived.Deep.Fields
import Derived.ChangeSame
namespace Go.Proofs.Ytffpggdbmfidcaa
open Go.ChangeShapes Go.WideShapes Go.ChangeAt Go.RowKit HeapM

/-- The things done, as they came in: three numbers each. -/
def Acts (w : World) (B : Nat) (A : Option Addr) (n : Nat) : Prop :=
  ∀ j, j < n → ∃ (b o : Nat) (k v y : Int), A = some ⟨b, o, none⟩ ∧ b < B ∧ w.cell? ⟨b, o + j * 3, none⟩ = some (.int .i64 k) ∧ w.cell? ⟨b, o + j * 3 + 1, none⟩ = some (.int .i64 v) ∧ w.cell? ⟨b, o + j * 3 + 2, none⟩ = some (.int .i64 y)
theorem cells_act : Try.prog.cellsOf 33 = 3 := by kernel_rfl
theorem one_of {cs : List Value} {i : Nat} {u : Value} (h : (cs.drop i).take 1 = [u]) : cs[i]? = some u := by
  have := congrArg (fun l => l[0]?) h
  simpa [List.getElem?_take, List.getElem?_drop] using this
/-- The things done that came in. -/
theorem open_acts {H : Type} {enc : TypeId × Value → H} {W : World} {base : Nat} {v : Value} {d : DataW H} {p : List MemPlace} (hok : Value.okWide Try.prog W .any base 29 v)
    (h : DataW.Trod enc Try.prog W 0 (fun _ => true) true 29 v d p) :
    ∃ A n c, v = .slice A n c ∧ Acts W W.heap.size A n ∧ n ≤ 9223372036854775807 := by
  obtain ⟨a0, len, cap, rfl⟩ := okWide_slice Try.underlying29 hok
  obtain ⟨fuel, hf⟩ := h
  rcases Go.Deep.open_slice Try.underlying29 hf with ⟨hcs, _⟩ | ⟨a, len', cap', m, n0, D, Pl, hcs, _, hl, hmx, hm, _, hi⟩
  · simp [Value.cells] at hcs
    obtain ⟨rfl, rfl, rfl⟩ := hcs
    exact ⟨none, 0, 0, rfl, fun j hj => by omega, by omega⟩
  · simp [Value.cells] at hcs
    obtain ⟨rfl, rfl, rfl⟩ := hcs
    simp only [if_true] at hm
    have hmax : len ≤ 9223372036854775807 := by unfold maxLen at hmx; omega
    have elem : ∀ j, j < len → ∃ k0 k1 k2 : Int, W.cell? (a.add (j * 3)) = some (.int .i64 k0) ∧ W.cell? (a.add (j * 3 + 1)) = some (.int .i64 k1) ∧ W.cell? (a.add (j * 3 + 2)) = some (.int .i64 k2) := by
     intro j hj
     obtain ⟨cs, hc, ht⟩ := hi j (by omega)
     rw [cells_act] at hc
     obtain ⟨xs, n1, _, _, _, hxl, hfld⟩ := DataW.trod_struct Try.underlying33 ht
     obtain ⟨_, hcl, hat⟩ := World.cells?_some hc
     have hxs : ∀ i, i < 3 → xs[i]? = some (xs.getD i (.nil, [])) := fun i hi3 => by
       have hlt : i < xs.length := by rw [hxl]; exact hi3
       simp [List.getD, List.getElem?_eq_getElem hlt]
     have field : ∀ (i : Nat) (T : TypeId), Try.prog.underlying T = some (.int .i64) → Try.prog.cellsOf T = 1 → i < 3 → DataW.trod enc Try.prog W 0 (fun _ => true) true n1 T ((cs.drop i).take (Try.prog.cellsOf T)) = xs[i]? → ∃ k : Int, W.cell? (a.add (j * 3 + i)) = some (.int .i64 k) := by
       intro i T hu h1 hi3 hx
       rw [h1] at hx
       obtain ⟨k, hk, _⟩ := DataW.trod_int hu (hx.trans (hxs i hi3))
       have e := one_of hk
       exact ⟨k, by rw [← Go.Deep.add_add, hat i hi3]; exact e⟩
     obtain ⟨k0, h0⟩ := field 0 3 Try.underlying3 (by kernel_rfl) (by omega) (hfld 0 _ rfl)
     obtain ⟨k1, h1⟩ := field 1 3 Try.underlying3 (by kernel_rfl) (by omega) (hfld 1 _ rfl)
     obtain ⟨k2, h2⟩ := field 2 2 Try.underlying2 (by kernel_rfl) (by omega) (hfld 2 _ rfl)
     exact ⟨k0, k1, k2, h0, h1, h2⟩
    obtain ⟨b, off, spot⟩ := a
    refine ⟨some ⟨b, off, spot⟩, len, cap, rfl, fun j hj => ?_, hmax⟩
    obtain ⟨k0, k1, k2, h0, h1, h2⟩ := elem j hj
    obtain ⟨_, _, _, z0, _, _⟩ := elem 0 (by omega)
    have hspot : spot = none := by simpa [Addr.add] using World.cell?_spot z0
    subst hspot
    rw [add_plain] at h0 h1 h2
    exact ⟨b, off, k0, k1, k2, rfl, World.block_lt_of_cell? _ _ h0, h0, h1, h2⟩

namespace RRuns
/-- The outer loop's relation. -/
def Rel (b L N : Nat) (w : World) (z v : Value) (wr : World) : Prop :=
  ∃ (k n g cap : Nat) (s : Nat → Int) (t : Nat → Bool) (bx : Nat) (o : Obj), v = .int .i64 (k : Int) ∧ z = .slice (some ⟨g, 0, none⟩) (n + 1) cap ∧ k ≤ L ∧ n ≤ N + k ∧ Two w wr b n s t g (n + 1) cap s t bx o
/-- Behind the switch: both sides answered the same. -/
def Sw (b n : Nat) (w : World) (z e f x y p q : Value) (wr : World) : Prop :=
  (∃ (n' g cap : Nat) (s : Nat → Int) (t : Nat → Bool) (bx : Nat) (o : Obj), z = .slice (some ⟨g, 0, none⟩) (n' + 1) cap ∧ n' ≤ n + 1 ∧ Two w wr b n' s t g (n' + 1) cap s t bx o) ∧
  (∃ i : Int, e = .int .i64 i ∧ f = .int .i64 i) ∧ (∃ i : Int, x = .int .i64 i ∧ y = .int .i64 i) ∧ (∃ i : Bool, p = .bool i ∧ q = .bool i)

/-- The inner loop's relation: those before u that wait have been counted. -/
def InR (b n g cap : Nat) (s : Nat → Int) (t : Nat → Bool) (w : World) (m v : Value) (wr : World) : Prop :=
  ∃ (u : Int) (bx : Nat) (o : Obj), v = .int .i64 u ∧ m = .int .i64 (cntB t (min n (u - 1).toNat) : Nat) ∧ -1 ≤ u ∧ u ≤ (n : Int) + 2 ∧ Two w wr b n s t g (n + 1) cap s t bx o

set_option maxHeartbeats 12800000 in
set_option maxRecDepth 100000 in
theorem walk (vars : Int) (A : Option Addr) (L c0 : Nat) (w : World) (h : Acts w w.heap.size A L) (hL : L ≤ 9223372036854775807) :
    Calls Try.prog 4 #[.int .i64 vars, .slice A L c0] w fun e w' => e = .returned (.bool true) ∧ Below w.heap.size w w' := by
  have HA := Lib.hid h
  clear h
  by_cases hbig : 60 < vars
  · go_enter Try.func4, Try.ntmps4
    go_wp2_with fail
    refine (alive_any _).mono ?_
    rintro e wa ⟨rfl, hB⟩
    have HB := Lib.hid hB; clear hB
    go_wp2_with fail
    go_ret
    exact ⟨rfl, HB.out⟩
  have ta : decide (60 < vars) = false := decide_eq_false hbig
  by_cases hbig2 : 80 < L
  · have tb : decide (80 < L) = true := decide_eq_true hbig2
    go_enter Try.func4, Try.ntmps4
    go_wp2_with fail
    refine (alive_any _).mono ?_
    rintro e wa ⟨rfl, hB⟩
    have HB := Lib.hid hB; clear hB
    go_wp2_with fail
    go_ret
    exact ⟨rfl, HB.out⟩
  have hL80 : L ≤ 80 := by omega
  have hv60 : vars.toNat ≤ 60 := by omega
  have hv : vars ≤ 60 := by omega
  have tb : decide (80 < L) = false := decide_eq_false (by omega)
  have tc : decide ((80 : Int) < (L : Int)) = false := decide_eq_false (by omega)
  clear hbig hbig2 hL
  go_enter Try.func4, Try.ntmps4
  go_wp2_with fail
  refine (alive_any _).mono ?_
  rintro e wa ⟨rfl, hB⟩
  have HB := Lib.hid hB; clear hB
  go_wp2_with fail
  refine (new_any vars _ hv).mono ?_
  rintro e w1 ⟨b1, F1, rfl, hm1⟩
  have HM : Hid (NewPost vars.toNat wa (.returned (.pointer (some ⟨b1, 0, none⟩))) w1) := ⟨b1, F1, rfl, hm1⟩
  clear hm1
  go_wp2_with fail
  refine (rnew_any vars _ hv).mono ?_
  rintro e w2 ⟨z2, rfl, hz2⟩
  have HS : Hid (Rel b1 L vars.toNat w z2 (.int .i64 0) w2) := by
    obtain ⟨b, g, cap, eb, rfl, hT⟩ := Two.start HM.out hz2 HB.out
    injection eb with eb; injection eb with eb; injection eb with eb; injection eb with eb
    subst eb
    exact ⟨0, _, g, cap, _, _, _, _, rfl, rfl, Nat.zero_le _, by omega, hT⟩
  clear hz2 HM HB ta tb tc
  generalize vars.toNat = N at *
  go_wp2_with fail
  go_loopw [6, 33] (fun z v wr => Rel b1 L N w z v wr) (fun _ v _ => L - (intOf v).toNat)
  case atStart => exact HS.out
  case round =>
    clear HS
    obtain ⟨k, n, g, cap, s, t, bx, o, rfl, rfl, hk, hn, hT⟩ := hrel
    by_cases hlt : k < L
    · obtain ⟨b0, o0, kk, v, y, rfl, hb0, a0, a1, a2⟩ := HA.out k hlt
      have e0 : wr.cell? ⟨b0, o0 + k * 3, none⟩ = some (.int .i64 kk) := (hT.out.cell hb0).trans a0
      have e1 : wr.cell? ⟨b0, o0 + k * 3 + 1, none⟩ = some (.int .i64 v) := (hT.out.cell hb0).trans a1
      have e2 : wr.cell? ⟨b0, o0 + k * 3 + 2, none⟩ = some (.int .i64 y) := (hT.out.cell hb0).trans a2
      clear a0 a1 a2
      have HT := Lib.hid (hT.newbox (.cells #[.int .i64 kk, .int .i64 v, .int .i64 y] 33))
      clear hT
      have tk : decide (k < L) = true := decide_eq_true hlt
      go_upto_block 2 with (fail)
      go_cut [6, 9, 10, 11, 12, 13, 14] (fun z e f x y p q wx => Hid (Sw b1 n w z e f x y p q wx))
      case first =>
        have hn140 : n ≤ 140 := by omega
        have HBD := Lib.hid HT.out.live.bd
        have HC : Hid (∀ W b' n' s' t' g' N' cap' s2 t2, Two w W b' n' s' t' g' N' cap' s2 t2 wr.heap.size (.cells #[.int .i64 kk, .int .i64 v, .int .i64 y] 33) → W.cell? ⟨wr.heap.size, 1, none⟩ = some (.int .i64 v) ∧ W.cell? ⟨wr.heap.size, 2, none⟩ = some (.int .i64 y)) := fun W b' n' s' t' g' N' cap' s2 t2 h => by
          have hb := h.box
          rw [Lib.cell_of_heap hb, Lib.cell_of_heap hb]
          exact ⟨rfl, rfl⟩
        obtain ⟨d1, d2⟩ := HC.out _ _ _ _ _ _ _ _ _ _ HT.out
        clear e0 e1 e2
        generalize hW0 : wr.alloc (.cells #[.int .i64 kk, .int .i64 v, .int .i64 y] 33) = W0 at HT d1 d2 ⊢
        clear hW0
        obtain ⟨F, hR, hTo⟩ := HT.out.turn
        have HTo := Lib.hid hTo
        clear hTo
        by_cases k0 : kk = 0
        · subst k0
          by_cases hok : inB n v = true ∧ 0 ≤ y ∧ y ≤ 1152921504606846976
          · obtain ⟨hin, hy0, hy1⟩ := hok
            obtain ⟨hv1, hv2⟩ := (inB_iff n v).1 hin
            obtain ⟨q, rfl⟩ := Int.eq_ofNat_of_zero_le (show 0 ≤ v by omega)
            have HBU := Lib.hid (bump_yes W0 hR (by omega) q y (by omega) (by omega) hy0 hy1)
            clear hR hin
            go_wp2_with fail
            refine HBU.out.mono ?_
            rintro e w4 ⟨rfl, ht⟩
            have hT4 := HTo.out _ _ _ _ ht
            obtain ⟨f1, f2⟩ := HC.out _ _ _ _ _ _ _ _ _ _ hT4
            have HRB := Lib.hid (rbump_yes w4 hT4.row (by omega) q y (by omega) (by omega) hy0 hy1 (HBD.out q).1 (HBD.out q).2)
            have HT4 := Lib.hid hT4
            clear ht hT4 HBU d1 d2
            go_wp2_with fail
            refine HRB.out.mono ?_
            rintro e w5 ⟨z, rfl, hz⟩
            obtain ⟨g5, cap5, rfl, hT5⟩ := HT4.out.ent hz
            have HE : Hid (∃ (n' g cap : Nat) (s : Nat → Int) (t : Nat → Bool) (bx : Nat) (o : Obj), Value.slice (some ⟨g5, 0, none⟩) (n + 1) cap5 = .slice (some ⟨g, 0, none⟩) (n' + 1) cap ∧ n' ≤ n + 1 ∧ Two w w5 b1 n' s t g (n' + 1) cap s t bx o) := ⟨n, g5, cap5, _, _, _, _, rfl, by omega, hT5⟩
            clear hz hT5 HT4 HRB f1 f2
            go_wp2_with fail
            go_meet
            exact ⟨HE.out, ⟨0, rfl, rfl⟩, ⟨0, rfl, rfl⟩, ⟨false, rfl, rfl⟩⟩
          · have HBU := Lib.hid (bump_no W0 hR (by omega) v y hok)
            have HRB := Lib.hid (rbump_no (n := n + 1) (cap := cap) W0 (some ⟨g, 0, none⟩) (by omega) (by omega) v y (by rw [Nat.add_sub_cancel]; exact hok))
            have HE : Hid (∃ (n' g' cap' : Nat) (s : Nat → Int) (t : Nat → Bool) (bx : Nat) (o : Obj), Value.slice (some ⟨g, 0, none⟩) (n + 1) cap = .slice (some ⟨g', 0, none⟩) (n' + 1) cap' ∧ n' ≤ n + 1 ∧ Two w W0 b1 n' s t g' (n' + 1) cap' s t bx o) := ⟨n, g, cap, _, _, _, _, rfl, by omega, HT.out⟩
            clear hok hR
            go_wp2_with fail
            refine HBU.out.mono ?_
            rintro e w' ⟨rfl, rfl⟩
            go_wp2_with fail
            refine HRB.out.mono ?_
            rintro e w' ⟨rfl, rfl⟩
            go_wp2_with fail
            go_meet
            exact ⟨HE.out, ⟨31, rfl, rfl⟩, ⟨0, rfl, rfl⟩, ⟨false, rfl, rfl⟩⟩
        by_cases k1 : kk = 1
        · subst k1
          have HBU := Lib.hid (halve_any W0 hR (by omega))
          clear hR k0
          go_wp2_with fail
          refine HBU.out.mono ?_
          rintro e w4 ⟨rfl, ht⟩
          have hT4 := HTo.out _ _ _ _ ht
          have HRB := Lib.hid (rhalve_any w4 hT4.row (by omega) (by omega) HBD.out)
          have HT4 := Lib.hid hT4
          clear ht hT4 HBU d1 d2
          go_wp2_with fail
          refine HRB.out.mono ?_
          rintro e w5 ⟨z, rfl, hz⟩
          obtain ⟨g5, cap5, rfl, hT5⟩ := HT4.out.ent hz
          have HE : Hid (∃ (n' g cap : Nat) (s : Nat → Int) (t : Nat → Bool) (bx : Nat) (o : Obj), Value.slice (some ⟨g5, 0, none⟩) (n + 1) cap5 = .slice (some ⟨g, 0, none⟩) (n' + 1) cap ∧ n' ≤ n + 1 ∧ Two w w5 b1 n' s t g (n' + 1) cap s t bx o) := ⟨n, g5, cap5, _, _, _, _, rfl, by omega, hT5⟩
          clear hz hT5 HT4 HRB
          go_wp2_with fail
          go_meet
          exact ⟨HE.out, ⟨0, rfl, rfl⟩, ⟨0, rfl, rfl⟩, ⟨false, rfl, rfl⟩⟩
        by_cases k2 : kk = 2
        · subst k2
          clear k0 k1
          rcases hin : inB n v
          · have HBU := Lib.hid (push_no W0 hR (by omega) v hin)
            have HRB := Lib.hid (rpush_no (n := n + 1) (cap := cap) W0 (some ⟨g, 0, none⟩) (by omega) (by omega) v (by rw [Nat.add_sub_cancel]; exact hin))
            have HE : Hid (∃ (n' g' cap' : Nat) (s : Nat → Int) (t : Nat → Bool) (bx : Nat) (o : Obj), Value.slice (some ⟨g, 0, none⟩) (n + 1) cap = .slice (some ⟨g', 0, none⟩) (n' + 1) cap' ∧ n' ≤ n + 1 ∧ Two w W0 b1 n' s t g' (n' + 1) cap' s t bx o) := ⟨n, g, cap, _, _, _, _, rfl, by omega, HT.out⟩
            clear hin hR
            go_wp2_with fail
            refine HBU.out.mono ?_
            rintro e w' ⟨rfl, rfl⟩
            go_wp2_with fail
            refine HRB.out.mono ?_
            rintro e w' ⟨rfl, rfl⟩
            go_wp2_with fail
            go_meet
            exact ⟨HE.out, ⟨31, rfl, rfl⟩, ⟨0, rfl, rfl⟩, ⟨false, rfl, rfl⟩⟩
          · obtain ⟨hv1, hv2⟩ := (inB_iff n v).1 hin
            obtain ⟨q, rfl⟩ := Int.eq_ofNat_of_zero_le (show 0 ≤ v by omega)
            have HBU := Lib.hid (push_yes W0 hR (by omega) q (by omega) (by omega))
            clear hR hin
            go_wp2_with fail
            refine HBU.out.mono ?_
            rintro e w4 ⟨rfl, ht⟩
            have hT4 := HTo.out _ _ _ _ ht
            obtain ⟨f1, f2⟩ := HC.out _ _ _ _ _ _ _ _ _ _ hT4
            have HRB := Lib.hid (rpush_yes w4 hT4.row (by omega) q (by omega) (by omega))
            have HT4 := Lib.hid hT4
            clear ht hT4 HBU d1 d2
            go_wp2_with fail
            refine HRB.out.mono ?_
            rintro e w5 ⟨z, rfl, hz⟩
            obtain ⟨g5, cap5, rfl, hT5⟩ := HT4.out.ent hz
            have HE : Hid (∃ (n' g cap : Nat) (s : Nat → Int) (t : Nat → Bool) (bx : Nat) (o : Obj), Value.slice (some ⟨g5, 0, none⟩) (n + 1) cap5 = .slice (some ⟨g, 0, none⟩) (n' + 1) cap ∧ n' ≤ n + 1 ∧ Two w w5 b1 n' s t g (n' + 1) cap s t bx o) := ⟨n, g5, cap5, _, _, _, _, rfl, by omega, hT5⟩
            clear hz hT5 HT4 HRB f1 f2
            go_wp2_with fail
            go_meet
            exact ⟨HE.out, ⟨0, rfl, rfl⟩, ⟨0, rfl, rfl⟩, ⟨false, rfl, rfl⟩⟩
        by_cases k3 : kk = 3
        · subst k3
          clear k0 k1 k2
          by_cases hcz : cntB t n = 0
          · have HBU := Lib.hid (none_pops W0 hR hcz)
            have HZ := Lib.hid (cntB_zero hcz)
            have HRB := Lib.hid (rpop_any W0 HT.out.row (by omega) (by omega))
            clear hcz hR
            go_wp2_with fail
            refine HBU.out.mono ?_
            rintro e w' ⟨rfl, rfl⟩
            go_wp2_with fail
            refine HRB.out.mono ?_
            rintro e w5 (⟨_, rfl, hB5⟩ | ⟨q, z, hf, _⟩)
            case inr => have := HZ.out q hf.1 (by have := hf.2.1; omega); rw [hf.2.2.1] at this; cases this
            have HE : Hid (∃ (n' g' cap' : Nat) (s : Nat → Int) (t : Nat → Bool) (bx : Nat) (o : Obj), Value.slice (some ⟨g, 0, none⟩) (n + 1) cap = .slice (some ⟨g', 0, none⟩) (n' + 1) cap' ∧ n' ≤ n + 1 ∧ Two w w5 b1 n' s t g' (n' + 1) cap' s t bx o) := ⟨n, g, cap, _, _, _, _, rfl, by omega, HT.out.below hB5⟩
            clear hB5 HRB HBU
            go_wp2_with fail
            go_meet
            exact ⟨HE.out, ⟨0, rfl, rfl⟩, ⟨0, rfl, rfl⟩, ⟨false, rfl, rfl⟩⟩
          · have HBU := Lib.hid (one_pops W0 hR (by omega) (by omega))
            clear hR hcz
            go_wp2_with fail
            refine HBU.out.mono ?_
            rintro e w4 ⟨q, hq, rfl, ht⟩
            have hT4 := HTo.out _ _ _ _ ht
            have HRB := Lib.hid (rpop_any w4 hT4.row (by omega) (by omega))
            have HT4 := Lib.hid hT4
            have HQ := Lib.hid hq
            clear ht hT4 HBU d1 d2 hq
            go_wp2_with fail
            refine HRB.out.mono ?_
            rintro e w5 (⟨hno, rfl, hB5⟩ | ⟨q2, z, hf, rfl, hz⟩)
            case inl => have := hno q HQ.out.1 (by have := HQ.out.2.1; omega); rw [HQ.out.2.2.1] at this; cases this
            rw [Nat.add_sub_cancel] at hf
            obtain rfl := HQ.out.only hf
            obtain ⟨g5, cap5, rfl, hT5⟩ := HT4.out.ent hz
            have HE : Hid (∃ (n' g cap : Nat) (s : Nat → Int) (t : Nat → Bool) (bx : Nat) (o : Obj), Value.slice (some ⟨g5, 0, none⟩) (n + 1) cap5 = .slice (some ⟨g, 0, none⟩) (n' + 1) cap ∧ n' ≤ n + 1 ∧ Two w w5 b1 n' s t g (n' + 1) cap s t bx o) := ⟨n, g5, cap5, _, _, _, _, rfl, by omega, hT5⟩
            clear hz hT5 HT4 HRB hf HQ
            go_wp2_with fail
            go_meet
            exact ⟨HE.out, ⟨0, rfl, rfl⟩, ⟨_, rfl, rfl⟩, ⟨true, rfl, rfl⟩⟩
        by_cases k4 : kk = 4
        · subst k4
          clear k0 k1 k2 k3
          have HBU := Lib.hid (grow_any W0 hR (by omega))
          clear hR
          go_wp2_with fail
          refine HBU.out.mono ?_
          rintro e w4 ⟨rfl, ht⟩
          have hT4 := HTo.out _ _ _ _ ht
          have hrb := rgrow_any w4 hT4.row (by omega) (by omega)
          have HRB := Lib.hid hrb
          have HT4 := Lib.hid hT4
          clear ht hT4 HBU d1 d2 hrb
          go_wp2_with fail
          refine HRB.out.mono ?_
          rintro e w5 ⟨z, rfl, hz⟩
          obtain ⟨g5, cap5, rfl, hT5⟩ := HT4.out.ent hz
          have HE : Hid (∃ (n' g cap : Nat) (s : Nat → Int) (t : Nat → Bool) (bx : Nat) (o : Obj), Value.slice (some ⟨g5, 0, none⟩) (n + 1 + 1) cap5 = .slice (some ⟨g, 0, none⟩) (n' + 1) cap ∧ n' ≤ n + 1 ∧ Two w w5 b1 n' s t g (n' + 1) cap s t bx o) := ⟨n + 1, g5, cap5, _, _, _, _, rfl, by omega, hT5⟩
          clear hz hT5 HT4 HRB
          go_wp2_with fail
          go_meet
          exact ⟨HE.out, ⟨0, rfl, rfl⟩, ⟨(n : Int) + 1, rfl, rfl⟩, ⟨false, rfl, rfl⟩⟩
        have q0 : (kk == 0) = false := by rw [beq_eq_false_iff_ne]; exact k0
        have q1 : (kk == 1) = false := by rw [beq_eq_false_iff_ne]; exact k1
        have q2 : (kk == 2) = false := by rw [beq_eq_false_iff_ne]; exact k2
        have q3 : (kk == 3) = false := by rw [beq_eq_false_iff_ne]; exact k3
        have q4 : (kk == 4) = false := by rw [beq_eq_false_iff_ne]; exact k4
        have HE : Hid (∃ (n' g' cap' : Nat) (s : Nat → Int) (t : Nat → Bool) (bx : Nat) (o : Obj), Value.slice (some ⟨g, 0, none⟩) (n + 1) cap = .slice (some ⟨g', 0, none⟩) (n' + 1) cap' ∧ n' ≤ n + 1 ∧ Two w W0 b1 n' s t g' (n' + 1) cap' s t bx o) := ⟨n, g, cap, _, _, _, _, rfl, by omega, HT.out⟩
        clear hR k0 k1 k2 k3 k4
        go_wp2_with fail
        go_meet
        exact ⟨HE.out, ⟨0, rfl, rfl⟩, ⟨0, rfl, rfl⟩, ⟨false, rfl, rfl⟩⟩
      case rest =>
        obtain ⟨⟨n', g', cap', s', t', bx', o', rfl, hn', hT'⟩, ⟨i1, rfl, rfl⟩, ⟨i2, rfl, rfl⟩, ⟨i3, rfl, rfl⟩⟩ := hcut.out
        have j1 : (i1 != i1) = false := by simp
        have j2 : (i2 != i2) = false := by simp
        have j3 : (i3 != i3) = false := by simp
        have j4 : ((n' : Int) != (n' : Int)) = false := by simp
        have j5 : (n' != n') = false := by simp
        have HV := Lib.hid (hT'.live.vars (by omega))
        have hn142 : n' ≤ 141 := by omega
        have HS2 : Hid (InR b1 n' g' cap' s' t' w (.int .i64 0) (.int .i64 (-1)) wc) := ⟨-1, bx', o', rfl, by rw [show min n' ((-1 : Int) - 1).toNat = 0 from by omega]; rfl, by omega, by omega, hT'⟩
        clear hcut hT' HT e0 e1 e2
        go_wp2_with fail
        refine HV.out.mono ?_
        rintro e w' ⟨rfl, rfl⟩
        clear HV
        go_wp2_with fail
        obtain ⟨wo, rfl⟩ : ∃ wo : World, wo = wr := ⟨_, rfl⟩
        go_loopw [15, 16] (fun m v wr => InR b1 n' g' cap' s' t' w m v wr) (fun _ v _ => (n' + 2 - intOf v).toNat)
        case atStart => exact HS2.out
        case round =>
          clear HS2 j1 j2 j3 j4 j5
          obtain ⟨u, bx, o, rfl, rfl, hu0, hu1, hT⟩ := hrel
          obtain ⟨m0, hm0⟩ : ∃ m0, cntB t' (min n' (u - 1).toNat) = m0 := ⟨_, rfl⟩
          rw [hm0]
          have HM := Lib.hid hm0
          clear hm0
          by_cases hle : u ≤ (n' : Int) + 1
          · rcases hin : inB n' u
            · have HT1 := Lib.hid (hT.newbox (.cells #[.int .i64 0, .bool false] 44))
              have HTH := Lib.hid (there_any (some ⟨g', 0, none⟩) (n' + 1) cap' u (wr.alloc (.cells #[.int .i64 0, .bool false] 44)) (by omega) (by omega))
              rw [Nat.add_sub_cancel, hin] at HTH
              have HD : Hid (∀ d, Two w ((wr.alloc (.cells #[.int .i64 0, .bool false] 44)).drewN d) b1 n' s' t' g' (n' + 1) cap' s' t' wr.heap.size (.cells #[.int .i64 0, .bool false] 44)) := fun d => HT1.out.below ⟨rfl, rfl, rfl, Nat.le_refl _, fun _ _ => rfl⟩
              have HSC : Hid (∀ d, Calls Try.prog 23 #[.pointer (some ⟨b1, 0, none⟩), .int .i64 u] ((wr.alloc (.cells #[.int .i64 0, .bool false] 44)).drewN d) fun e w' => e = .returned (.int .i64 0) ∧ w' = (wr.alloc (.cells #[.int .i64 0, .bool false] 44)).drewN d) := fun d => by
                refine ((HD.out d).live.score (by omega) u).mono ?_
                rintro e w' ⟨rfl, rfl⟩
                rw [hin]
                exact ⟨rfl, rfl⟩
              have HWA : Hid (∀ d, Calls Try.prog 24 #[.pointer (some ⟨b1, 0, none⟩), .int .i64 u] ((wr.alloc (.cells #[.int .i64 0, .bool false] 44)).drewN d) fun e w' => e = .returned (.bool false) ∧ w' = (wr.alloc (.cells #[.int .i64 0, .bool false] 44)).drewN d) := fun d => by
                refine ((HD.out d).live.waits (by omega) u).mono ?_
                rintro e w' ⟨rfl, rfl⟩
                rw [hin]
                exact ⟨rfl, rfl⟩
              have HE : Hid (∀ d, InR b1 n' g' cap' s' t' w (.int .i64 (m0 : Int)) (.int .i64 (u + 1)) ((wr.alloc (.cells #[.int .i64 0, .bool false] 44)).drewN d)) := fun d => by
                have hne := (inB_no n' u).1 hin
                exact ⟨u + 1, _, _, rfl, by rw [← HM.out, show min n' (u + 1 - 1).toNat = min n' (u - 1).toNat from by omega], by omega, by omega, HD.out d⟩
              clear hT hin HT1 HD HM
              go_wp2_with fail
              refine HTH.out.mono ?_
              rintro e w' ⟨rfl, rfl⟩
              clear HTH
              go_wp2_with fail
              go_quiet ((first | (go_at_call 23; exact Calls.quiet_of_same (HSC.out _)) | (go_at_call 24; exact Calls.quiet_of_same (HWA.out _))))
              go_wp2_with fail
              go_roundw
              case rel => exact HE.out _
              case measure => simp [intOf]; omega
            · obtain ⟨hv1, hv2⟩ := (inB_iff n' u).1 hin
              obtain ⟨q, rfl⟩ := Int.eq_ofNat_of_zero_le (show 0 ≤ u by omega)
              have HTH := Lib.hid (there_any (some ⟨g', 0, none⟩) (n' + 1) cap' (q : Int) (wr.alloc (.cells #[.int .i64 0, .bool false] 44)) (by omega) (by omega))
              rw [Nat.add_sub_cancel, hin] at HTH
              obtain ⟨c0, c1⟩ := (hT.newbox (.cells #[.int .i64 0, .bool false] 44)).row.cells (show q < n' + 1 by omega)
              have hcap := hT.row.bd
              obtain ⟨hcap1, hcap2⟩ := hcap
              have HD : Hid (∀ d, Two w ((wr.alloc (.cells #[.int .i64 (s' q), .bool (t' q)] 44)).drewN d) b1 n' s' t' g' (n' + 1) cap' s' t' wr.heap.size (.cells #[.int .i64 (s' q), .bool (t' q)] 44)) := fun d => (hT.newbox _).below ⟨rfl, rfl, rfl, Nat.le_refl _, fun _ _ => rfl⟩
              have HSC : Hid (∀ d, Calls Try.prog 23 #[.pointer (some ⟨b1, 0, none⟩), .int .i64 q] ((wr.alloc (.cells #[.int .i64 (s' q), .bool (t' q)] 44)).drewN d) fun e w' => e = .returned (.int .i64 (s' q)) ∧ w' = (wr.alloc (.cells #[.int .i64 (s' q), .bool (t' q)] 44)).drewN d) := fun d => by
                refine ((HD.out d).live.scoreof (by omega) q (by omega) (by omega)).mono ?_
                rintro e w' ⟨rfl, rfl⟩
                exact ⟨rfl, rfl⟩
              have HWA : Hid (∀ d, Calls Try.prog 24 #[.pointer (some ⟨b1, 0, none⟩), .int .i64 q] ((wr.alloc (.cells #[.int .i64 (s' q), .bool (t' q)] 44)).drewN d) fun e w' => e = .returned (.bool (t' q)) ∧ w' = (wr.alloc (.cells #[.int .i64 (s' q), .bool (t' q)] 44)).drewN d) := fun d => by
                refine ((HD.out d).live.waitsof (by omega) q (by omega) (by omega)).mono ?_
                rintro e w' ⟨rfl, rfl⟩
                exact ⟨rfl, rfl⟩
              have HMq : Hid (cntB t' (min n' ((q : Int) + 1 - 1).toNat) = m0 + (if t' q = true then 1 else 0)) := by
                unfold Hid
                rw [← HM.out, show min n' ((q : Int) + 1 - 1).toNat = (q - 1) + 1 from by omega, show min n' ((q : Int) - 1).toNat = q - 1 from by omega]
                show cntB t' (q - 1) + (if t' (q - 1 + 1) = true then 1 else 0) = _
                rw [show q - 1 + 1 = q from by omega]
              rcases htq : t' q
              · rw [htq] at c1 HD HSC HWA HMq
                have HE : Hid (∀ d, InR b1 n' g' cap' s' t' w (.int .i64 (m0 : Int)) (.int .i64 ((q : Int) + 1)) ((wr.alloc (.cells #[.int .i64 (s' q), .bool false] 44)).drewN d)) := fun d =>
                  ⟨(q : Int) + 1, _, _, rfl, by rw [HMq.out]; simp, by omega, by omega, HD.out d⟩
                clear hT hin HD HM HMq htq
                generalize s' q = x at *
                have tx : (x != x) = false := by simp
                go_wp2_with fail
                refine HTH.out.mono ?_
                rintro e w' ⟨rfl, rfl⟩
                clear HTH
                go_wp2_with fail
                go_quiet ((first | (go_at_call 23; exact Calls.quiet_of_same (HSC.out _)) | (go_at_call 24; exact Calls.quiet_of_same (HWA.out _))))
                go_wp2_with fail
                go_roundw
                case rel => exact HE.out _
                case measure => simp [intOf]; omega
              · rw [htq] at c1 HD HSC HWA HMq
                have HE : Hid (∀ d, InR b1 n' g' cap' s' t' w (.int .i64 ((m0 : Int) + 1)) (.int .i64 ((q : Int) + 1)) ((wr.alloc (.cells #[.int .i64 (s' q), .bool true] 44)).drewN d)) := fun d =>
                  ⟨(q : Int) + 1, _, _, rfl, by rw [HMq.out]; simp, by omega, by omega, HD.out d⟩
                have hm1 : m0 ≤ 141 := by
                  rw [← HM.out]
                  have := cntB_le t' (min n' ((q : Int) - 1).toNat)
                  omega
                clear hT hin HD HM HMq htq
                generalize s' q = x at *
                have tx : (x != x) = false := by simp
                go_wp2_with fail
                refine HTH.out.mono ?_
                rintro e w' ⟨rfl, rfl⟩
                clear HTH
                go_wp2_with fail
                go_quiet ((first | (go_at_call 23; exact Calls.quiet_of_same (HSC.out _)) | (go_at_call 24; exact Calls.quiet_of_same (HWA.out _))))
                go_wp2_with fail
                go_roundw
                case rel => exact HE.out _
                case measure => simp [intOf]; omega
          · have HZ := Lib.hid hT.live.size
            rw [show n' = min n' (u - 1).toNat from by omega, HM.out] at HZ
            have tle : decide (u ≤ (n' : Int) + 1) = false := decide_eq_false hle
            have HE : Hid (Rel b1 L N w (.slice (some ⟨g', 0, none⟩) (n' + 1) cap') (.int .i64 ((k : Int) + 1)) wr) := ⟨k + 1, n', g', cap', s', t', bx, o, by rw [show ((k + 1 : Nat) : Int) = (k : Int) + 1 from by omega], rfl, hlt, by omega, hT⟩
            have tm : ((m0 : Int) != (m0 : Int)) = false := by simp
            have tm2 : (m0 != m0) = false := by simp
            clear hT hle HM hu0 hu1
            go_wp2_with fail
            refine HZ.out.mono ?_
            rintro e w' ⟨rfl, rfl⟩
            go_wp2_with fail
            go_roundw
            case rel => exact HE.out
            case measure => simp [intOf]; omega
    · have tk : decide (k < L) = false := decide_eq_false hlt
      have HB := Lib.hid hT.out
      clear hT
      go_wp2_with fail
      go_ret
      exact ⟨rfl, HB.out⟩

set_option maxHeartbeats 800000 in
set_option maxRecDepth 100000 in
theorem lifted (os : Os) (started : os.Started) (H : Type) (enc : TypeId × Value → H) :
    ReturnsInHanded {} Try.checked os 4 .any (Rows.rankRunsSpec.pre6 enc Try.prog Try.f4 Rows.rankRunsRow.domain false) (Rows.rankRunsSpec.post enc Try.prog Try.f4 false true false false) := by
  refine returnsInHanded_of_change (C := Try.checked) own_knob started (by kernel_rfl) Try.func4
    (ChangeSpec.witness6 (enc := enc) (C := Try.checked) false ⟨#[], #[.int .i64 0, .slice none 0 0], []⟩ 8 (by kernel_rfl) (by kernel_rfl) (by kernel_rfl) (by kernel_rfl)) ?_
  intro W base args ds gs before hval0 hW _ _
  have hval : ∀ (j : Nat) t v, Try.f4.params[j]? = some t → args[j]? = some v → Value.okWide Try.prog W .any base t v := hval0
  have hW' := hW
  obtain ⟨p, q, hA0, hV, rfl, _, _⟩ := hW
  have hA : DataW.TrodAll enc Try.prog W 0 (fun _ => true) true Try.f4.params.toList args.toList ds p := hA0
  rw [Try.params4] at hA hval
  obtain ⟨v0, v1, d0, d1, p0, p1, rfl, rfl, rfl, h0, h1⟩ := trodAll_two hA
  obtain ⟨rfl, rfl⟩ := trodVars_none hV
  obtain ⟨a0, rfl, rfl, rfl, w0⟩ := open_int Try.underlying3 (hval 0 3 v0 rfl rfl) h0
  obtain ⟨A, n, c, rfl, hA1, hn⟩ := open_acts (hval 1 29 v1 rfl rfl) h1
  clear hA0 hval0
  simp only [List.append_nil, List.nil_append] at hW'
  have hlt : ∀ y ∈ p1, y.block < W.heap.size := fun y hy => by simpa using hW'.lt y (by simp [hy])
  refine (walk a0 A n c W hA1 hn).mono fun e W' ⟨he, hB⟩ => ?_
  subst he
  exact ⟨_, rfl, _, _, _, [], _, [], hW', trodAll_mk1 (shut_bool Try.underlying4 true), trodAll_mk2 (shut_int Try.underlying3 w0) (Below.trod laid_out (by kernel_rfl) (of_decide_eq_true (by kernel_rfl)) h1 hB hlt), rfl, hB.frame _, fun h => by cases h⟩

theorem proved : Rows.RankRunsSaid :=
  OpenClaim.holds_of_wide 4 Try.f4 rfl rfl rfl rfl rfl rfl rfl ⟨rfl, rfl, rfl, rfl, rfl⟩ rfl rfl rfl rfl rfl (by kernel_rfl) Try.func4 (by kernel_rfl)
    (of_decide_eq_true (by kernel_rfl)) (by unfold Func.isWrapper; first | (rw [if_pos (by decide +kernel)]; kernel_rfl) | (rw [if_neg (by decide +kernel)]; exact ⟨rfl, rfl⟩))
    (fun os started H enc _ => lifted os started H enc)
end RRuns
theorem rankRuns_holds : Rows.RankRunsSaid := RRuns.proved
#print axioms rankRuns_holds
end Go.Proofs.Ytffpggdbmfidcaa
