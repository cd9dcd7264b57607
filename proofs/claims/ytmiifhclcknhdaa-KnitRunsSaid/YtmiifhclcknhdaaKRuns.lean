/- KnitRuns is true: the statement Rows.KnitRunsSaid, without a condition. -/
import Derived.Test.YtmiifhclcknhdaaKntT
import Derived.ProofKit
import Derived.OpenShut
import Derived.SizedLaws
namespace Go.Proofs.Ytmiifhclcknhdaa.KRuns
open Go.ChangeShapes Go.WideShapes Go.ChangeAt Go.RowKit GatM KntM Go.Lib LitM CnfP

theorem own_knob : ownKnob Try.prog.godebug = none := by kernel_rfl
/-- The edge that a number picks. -/
def xe (E : List Nat) (e : Nat) (rs : List Int) (j : Nat) : Nat := E.getD (clampZ e (rs.getD j 0)) 0
set_option maxHeartbeats 12800000 in
set_option maxRecDepth 100000 in
theorem walk (nn : Int) (A1 : Option Addr) (n1 c1 : Nat) (A2 : Option Addr) (n2 c2 : Nat) (rs : List Int) (w : World) (hx : ActsK w w.heap.size A1 n1) (hr : Rd .i64 w w.heap.size A2 n2 rs) :
    Calls Try.prog 4 #[.int .i64 nn, .slice A1 n1 c1, .slice A2 n2 c2] w fun e w' => e = .returned (.bool true) ∧ Below w.heap.size w w' := by
  have HX := Lib.hid hx
  have HR := Lib.hid hr
  clear hx hr
  go_enter Try.func4, Try.ntmps4
  go_wp2_with fail
  refine (kalive_any w).mono ?_
  rintro e w1 ⟨rfl, hb1⟩
  have HBD := Lib.hid (kbuild_any nn A1 n1 c1 w1 ((HX.out.below hb1).mono1 hb1.size))
  have HB1 := Lib.hid hb1
  clear hb1 HX
  go_wp2_with fail
  refine HBD.out.mono ?_
  clear HBD
  rintro e w2 (⟨rfl, rfl⟩ | ⟨bg, c, gs, E, gE, cap, ne, k, rfl, hC, hn0, hn1, hk⟩)
  · go_wp2_with fail
    go_ret
    exact ⟨rfl, HB1.out⟩
  have hb2 : Below w.heap.size w w2 := HB1.out.trans (hC.lv.be.mono HB1.out.size)
  by_cases h10 : 10 < n2
  · have tk : decide (10 < n2) = true := decide_eq_true h10
    have tk2 : decide (10 < (n2 : Int)) = true := decide_eq_true (by omega)
    have HB2 := Lib.hid hb2
    clear hC hb2
    go_wp2_with fail
    go_ret
    exact ⟨rfl, HB2.out⟩
  have tk : decide (10 < n2) = false := decide_eq_false h10
  have tk2 : decide (10 < (n2 : Int)) = false := decide_eq_false (by omega)
  obtain ⟨w6, hw6⟩ : ∃ w6, w6 = w2.alloc (.cells #[.int .i64 0, .slice none 0 0, .int .i64 1000] 36) := ⟨_, rfl⟩
  obtain ⟨w7, hw7⟩ : ∃ w7, w7 = w6.alloc (.cells #[.pointer (some ⟨c.bg, 0, none⟩), .iface 31 (.pointer (some ⟨w2.heap.size, 0, none⟩)), .slice none 0 0, .int .i64 0, .slice none 0 0] 71) := ⟨_, rfl⟩
  obtain ⟨q, hqk, hqs, hK, ho2⟩ := KL.new hC.lv 1000 hw6 hw7
  have s6 : w6.heap.size = w2.heap.size + 1 := by rw [hw6]; simp
  have s7 : w7.heap.size = w2.heap.size + 1 + 1 := by rw [hw7]; simp [s6]
  have hb7 : Below w2.heap.size w2 w7 := by rw [hw7, hw6]; exact ((Below.refl _ _).alloc (Nat.le_refl _) _).alloc (by simp) _
  have hgl : gs.length ≤ 200 := Nat.le_trans hC.gts hk
  have hin : ∀ j, j < ne → E.getD j 0 / 2 < gs.length := fun j hj => in_get hC.inn (by have := hC.len; omega)
  have HON : Hid (OnS w1.heap.size w1 (w2.heap.size + 1) w2.heap.size c gs gE ne cap E w7 q 0 [] none 0 []) := by
    exact ⟨hK, by rw [hqk, s6], hqs, hC.row.same (hb7.block _ hC.row.lt), ⟨ho2 _ hC.row.lt, hC.lo⟩, .inl ⟨rfl, rfl, rfl⟩, fun k hk => absurd hk (onB_none k)⟩
  have HNW := Lib.hid (knew_any c.bg w2.heap.size w6)
  have HBW : Hid (∀ W, Below w1.heap.size w1 W → Below w.heap.size w W) := fun W hW => HB1.out.trans (hW.mono HB1.out.size)
  have HRD : Hid (∀ W, Below w1.heap.size w1 W → Rd .i64 W W.heap.size A2 n2 rs) := fun W hW => (HR.out.below (HBW.out W hW)).more (HBW.out W hW).size
  have hbgc := hC.bg
  subst hbgc
  have HIN := Lib.hid hin
  rw [hw6] at HNW
  have HW6 := Lib.hid hw6
  have HW7 := Lib.hid hw7
  have hne : E.length = ne := hC.len
  have HNE := Lib.hid hne
  clear hK hqk hqs ho2 hb7 hC hb2 HB1 HR hin hw6 hw7 hne
  go_wp2_with fail
  refine HNW.out.mono ?_
  rintro e wn ⟨rfl, hwn0⟩
  have hwn : wn = w7 := by rw [HW7.out, HW6.out]; exact hwn0
  clear hwn0
  subst hwn
  clear HNW HW6 HW7 tk tk2
  go_wp2_with fail
  generalize hbs : w2.heap.size = bs at *
  generalize hbk : bs + 1 = bk at *
  clear hbs hbk s6 s7
  have HP0 : Hid (∃ q m K, OnS w1.heap.size w1 bk bs c gs gE ne cap E wn q m K none 0 [] ∧ ∀ j, j < 0 → xe E ne rs j / 2 ∈ K) := ⟨q, 0, [], HON.out, fun j hj => by omega⟩
  clear HON
  go_loopw [64, 12, 13, 14, 15, 16, 17] (fun iv _ _ _ _ _ _ wr => ∃ i : Nat, iv = .int .i64 (i : Int) ∧ i ≤ n2 ∧ Hid (∃ q m K, OnS w1.heap.size w1 bk bs c gs gE ne cap E wr q m K none 0 [] ∧ ∀ j, j < i → xe E ne rs j / 2 ∈ K)) (fun iv _ _ _ _ _ _ _ => n2 - (intOf iv).toNat)
  case atStart => exact ⟨0, rfl, by omega, HP0⟩
  case round =>
    clear HP0
    obtain ⟨i, rfl, hi, HP⟩ := hrel
    obtain ⟨q1, m1, K1, hO, hN⟩ := HP.out
    by_cases hlt : i < n2
    · -- A{
      have ti : decide ((i : Int) < (n2 : Int)) = true := decide_eq_true (by omega)
      have ti2 : decide (i < n2) = true := decide_eq_true hlt
      have hbe := hO.kl.lv.be
      obtain ⟨b, o, rfl, hb, hc⟩ := (HRD.out wr hbe).get hlt
      obtain ⟨qa, hqa⟩ : ∃ q, q = clampZ ne (rs.getD i 0) := ⟨_, rfl⟩
      have hqal : qa < ne := by rw [hqa]; exact clamp_lt (by omega) _
      have hya : max 0 (min (rs.getD i 0) ((ne : Int) - 1)) = (qa : Int) := by rw [hqa]; unfold clampZ; omega
      have tq : decide ((ne : Int) ≤ (qa : Int)) = false := decide_eq_false (by omega)
      have tq2 : decide (ne ≤ qa) = false := decide_eq_false (by omega)
      have x3 : wr.cell? ⟨gE, qa, none⟩ = some (.int .u32 ((E.getD qa 0 : Nat) : Int)) := hO.er.cell (by omega)
      have hxe : xe E ne rs i = E.getD qa 0 := by unfold xe; rw [← hqa]
      have hxi := HIN.out qa hqal
      have hxo := xor_one (a := E.getD qa 0) (by omega)
      have HLI : Hid (Calls Try.prog 10 #[.pointer (some ⟨bk, 0, none⟩), .int .u32 ((E.getD qa 0 : Nat) : Int)] wr fun r w' => ∃ z : Int, z ≠ 0 ∧ (-1000 ≤ z ∧ z ≤ 1000) ∧ r = .returned (.tuple #[.int .i32 z, .int .i64 0]) ∧
          Hid (Calls Try.prog 10 #[.pointer (some ⟨bk, 0, none⟩), .int .u32 ((turnE (E.getD qa 0) : Nat) : Int)] w' fun r w3 => r = .returned (.tuple #[.int .i32 (-z), .int .i64 0]) ∧ Hid (∃ q m K, OnS w1.heap.size w1 bk bs c gs gE ne cap E w3 q m K none 0 [] ∧ ∀ j, j < i + 1 → xe E ne rs j / 2 ∈ K))) := by
        refine (hO.lit (by omega) _ hxi).mono ?_
        rintro r w' ⟨q2, D, rfl, hO2, hm, _⟩
        have hlen := hO2.kl.kn.ok.len
        have hbd := lt_bd (K1 ++ D) (E.getD qa 0)
        refine ⟨lt (K1 ++ D) (E.getD qa 0), lt_ne hm, ⟨by omega, by omega⟩, rfl, ?_⟩
        refine (hO2.lit (by omega) (turnE (E.getD qa 0)) (by rw [turn_div]; exact hxi)).mono ?_
        rintro r w3 ⟨q3, D2, rfl, hO3, _, hD2⟩
        obtain rfl := hD2 (by rw [turn_div]; exact hm)
        rw [List.append_nil] at hO3 ⊢
        rw [lt_turn]
        refine ⟨rfl, q3, _, _, hO3, fun j hj => ?_⟩
        by_cases e : j < i
        · exact List.mem_append_left _ (hN j e)
        · obtain rfl : j = i := by omega
          rw [hxe]; exact hm
      clear hO hN HP hbe hqa hxe hxi
      generalize E.getD qa 0 = x at *
      generalize rs.getD i 0 = y at *
      have hxo2 : bits .xor .u32 (x : Int) 1 = ((turnE x : Nat) : Int) := hxo
      clear hxo
      go_wp2_with fail
      refine HLI.out.mono ?_
      rintro r w5 ⟨z, hz0, hzb, rfl, HL2⟩
      clear HLI x3 hya tq tq2 hc
      go_wp2_with fail
      refine HL2.out.mono ?_
      rintro r w6 ⟨rfl, HN⟩
      have tz : (z == 0) = false := by rw [beq_eq_false_iff_ne]; exact hz0
      clear HL2 hxo2
      go_wp2_with fail
      go_roundw
      case rel => exact ⟨i + 1, by go_num, by omega, HN⟩
      case measure => simp [intOf]; omega
      -- A}
    · obtain rfl : i = n2 := by omega
      have ti : decide ((i : Int) < (i : Int)) = false := decide_eq_false (by omega)
      have ti2 : decide (i < i) = false := decide_eq_false (by omega)
      have HRT := Lib.hid hN
      have HO0 : Hid (∃ q m, OnS w1.heap.size w1 bk bs c gs gE ne cap E wr q m K1 none 0 []) := ⟨q1, m1, hO⟩
      have hok := hO.kl.kn.ok
      have HOK := Lib.hid hok
      have hK9 : K1.length ≤ 200 := by have := hok.len; omega
      have HWF := Lib.hid hO.kl.kn.wf
      clear hO hN HP hok
      go_wp2_with fail
      -- what holds in any later world
      have HFR : Hid (∀ V, (∃ q m, OnS w1.heap.size w1 bk bs c gs gE ne cap E V q m K1 none 0 []) → (∃ Ac cc, V.cell? ⟨bs, 0, none⟩ = some (.int .i64 (K1.length : Int)) ∧ V.cell? ⟨bs, 1, none⟩ = some (.slice Ac (clsK gs K1).length cc) ∧ RdF V V.heap.size Ac (clsK gs K1).length (clsK gs K1)) ∧
          (Calls Try.prog 15 #[.pointer (some ⟨c.bg, 0, none⟩)] V fun r w' => r = .returned (.int .i64 (gs.length : Int)) ∧ V = w') ∧
          (∀ x : Nat, x ≤ 1000 → Calls Try.prog 16 #[.pointer (some ⟨bk, 0, none⟩), .int .i64 (x : Int)] V fun r w' => r = .returned (.int .i64 ((vr K1 x : Nat) : Int)) ∧ V = w') ∧
          (∀ x : Nat, x < gs.length → Calls Try.prog 18 #[.pointer (some ⟨c.bg, 0, none⟩), .int .i64 (x : Int)] V fun r w' => r = .returned (.tuple #[.int .u32 (((getG gs x).1 : Nat) : Int), .int .u32 (((getG gs x).2 : Nat) : Int), .bool (andB gs x)]) ∧ Below V.heap.size V w') ∧
          (∀ (bv : List Bool) (Av : Option Addr) (cv x : Nat), RdO V V.heap.size Av 6 bv → x / 2 < gs.length → Calls Try.prog 17 #[.pointer (some ⟨c.bg, 0, none⟩), .slice Av 6 cv, .slice (some ⟨V.heap.size, 0, none⟩) 1 1] (V.alloc (.cells #[.int .u32 (x : Int)] 25))
            fun r w' => ∃ g, r = .returned (.tuple #[.slice (some ⟨g, 0, none⟩) 1 1, .int .i64 0]) ∧ w'.cell? ⟨g, 0, none⟩ = some (.bool (sayE bv gs x)) ∧ g < w'.heap.size ∧ V.heap.size ≤ g ∧ Below V.heap.size V w') ∧
          (∀ (bm : List Bool) (Am : Option Addr) (cm x : Nat), RdO V V.heap.size Am K1.length bm → x / 2 < gs.length → x / 2 ∈ K1 → Calls Try.prog 12 #[.pointer (some ⟨bk, 0, none⟩), .slice Am K1.length cm, .int .u32 (x : Int)] V
            fun r w' => r = .returned (.tuple #[.bool (litB' bm K1 x), .bool true]) ∧ Below V.heap.size V w') ∧
          (Calls Try.prog 20 #[.pointer (some ⟨bk, 0, none⟩)] V fun r w' => r = .returned (.int .i64 (K1.length : Int)) ∧ V = w') ∧ Below w.heap.size w V) := fun V hh => by
        obtain ⟨q, m, h⟩ := hh
        obtain ⟨s0, s1⟩ := h.kl.sink
        rw [h.hs] at s0 s1
        have hkn := h.kl.kn.known_
        rw [h.hk] at hkn
        refine ⟨⟨_, _, s0, s1, h.kl.kn.at_.rdF⟩, h.kl.lv.len_, fun x hx => ?_, fun x hx => gparts_any h.kl.kn.gr h.kl.kn.wf (by omega) x hx, fun bv Av cv x hv hx => ?_, fun bm Am cm x hv hx hxK => ?_, hkn, HBW.out _ h.kl.lv.be⟩
        · have := h.kl.kn.var_ (by omega) x (by omega)
          rw [h.hk] at this
          exact this
        · have hb : Below V.heap.size V (V.alloc (.cells #[.int .u32 (x : Int)] 25)) := (Below.refl _ _).alloc (Nat.le_refl _) _
          refine ((h.kl.lv.below hb).eval (by omega) Av 6 cv bv (hv.belo hb) _ 1 1 [x] (rdn_made .u32 V 25 [x]) (by intro y hy; obtain rfl := List.mem_singleton.1 hy; exact hx) (by omega)).mono ?_
          rintro r w' ⟨g, rfl, hr, hg, hb2⟩
          exact ⟨g, rfl, hr.cell (show 0 < 1 * 1 by omega), hr.lt, Nat.le_trans hb.size hg, hb.trans (hb2.mono hb.size)⟩
        · have := kvalue_yes h.kl.kn (by omega) Am K1.length cm bm hv (by omega) x (by omega) (by have := vr_pos.2 hxK; omega) (vr_le _ _)
          rw [h.hk] at this
          exact this
      have HOB : Hid (∀ V V', (∃ q m, OnS w1.heap.size w1 bk bs c gs gE ne cap E V q m K1 none 0 []) → Below V.heap.size V V' → ∃ q m, OnS w1.heap.size w1 bk bs c gs gE ne cap E V' q m K1 none 0 []) := fun V V' hh hb => by
        obtain ⟨q, m, h⟩ := hh
        exact ⟨q, m, h.below hb⟩
      have HED : Hid (∀ V q, (∃ q m, OnS w1.heap.size w1 bk bs c gs gE ne cap E V q m K1 none 0 []) → q < ne → V.cell? ⟨gE, q, none⟩ = some (.int .u32 ((E.getD q 0 : Nat) : Int)) ∧ gE < V.heap.size ∧ Rd .i64 V V.heap.size A2 i rs) := fun V q hh hq => by
        obtain ⟨q', m, h⟩ := hh
        exact ⟨h.er.cell (by omega), h.er.lt, HRD.out V h.kl.lv.be⟩
      clear HBW HRD
      go_loopw [18] (fun iv wr => ∃ r : Nat, iv = .int .i64 (r : Int) ∧ r ≤ 64 ∧ Hid (∃ q m, OnS w1.heap.size w1 bk bs c gs gE ne cap E wr q m K1 none 0 [])) (fun iv _ => 64 - (intOf iv).toNat)
      case atStart => exact ⟨0, rfl, by omega, HO0⟩
      case round =>
        clear HO0
        obtain ⟨r, rfl, hr, HO⟩ := hrel
        by_cases hr64 : r < 64
        · have tr : decide ((r : Int) < 64) = true := decide_eq_true (by omega)
          have tr2 : decide (r < 64) = true := decide_eq_true hr64
          go_wp2_with fail
          refine (trow_any r wr).mono ?_
          rintro e wv ⟨gv, cv, rfl, _, hbv, hgv, hrv⟩
          have hOv := HOB.out _ _ HO.out hbv
          obtain ⟨⟨Ac, cc, s0, s1, _⟩, _⟩ := HFR.out wv hOv
          obtain ⟨C, hC1, hC2, hmk⟩ := make_sl (P := Try.prog) 49 4 Try.underlying49 info_gbool rfl (by decide) (by decide) K1.length (by omega)
          have hmk1 := hmk wv
          have hmk2 := hmk (wv.alloc (.cells C 4))
          have e0 : (wv.alloc (.cells C 4)).cell? ⟨bs, 0, none⟩ = some (.int .i64 (K1.length : Int)) := by
            have hb : Below wv.heap.size wv (wv.alloc (.cells C 4)) := (Below.refl _ _).alloc (Nat.le_refl _) _
            exact (HFR.out _ (HOB.out _ _ hOv hb)).1.elim fun _ h => h.elim fun _ h => h.1
          have HR0 : Hid (RnS wr gv cv wv.heap.size (wv.heap.size + 1) K1.length r (modX (rowV r) gs K1 0) (freX gs K1 0) ((wv.alloc (.cells C 4)).alloc (.cells C 4))) := by
            have hb : Below wv.heap.size wv (wv.alloc (.cells C 4)) := (Below.refl _ _).alloc (Nat.le_refl _) _
            have hsz := hbv.size
            have hf : ∀ j, j < K1.length * 1 → C[j]? = some (.bool false) := fun j hj => by rw [hC2 j hj, Nat.mod_one]; rfl
            refine ⟨((hbv.trans (hb.mono hsz)).alloc (by simp; omega) _), (hrv.alloc _).alloc _, ?_, ?_, ⟨by have := hrv.lt; omega, by have := hrv.lt; omega, by omega⟩, ⟨hgv, by omega, by omega⟩⟩
            · refine RowV.alloc (RowV.congr (RowV.made (w := wv) (f := fun _ => .bool false) (by omega) hC1 hf) fun j hj => ?_) _
              unfold modX; rw [decide_eq_false (by omega)]; rfl
            · have := RowV.made (T := 4) (k := 1) (w := wv.alloc (.cells C 4)) (f := fun _ => .bool false) (by omega) hC1 hf
              rw [show (wv.alloc (.cells C 4)).heap.size = wv.heap.size + 1 by simp] at this
              refine this.congr fun j hj => ?_
              unfold freX; rw [decide_eq_false (by omega)]; rfl
          clear hC1 hC2 hmk hbv hgv hrv hOv s1
          go_wp2_with fail
          obtain ⟨wo, rfl⟩ : ∃ wo : World, wo = wr := ⟨_, rfl⟩
          generalize hgm : wv.heap.size = gm at *
          generalize hgf : gm + 1 = gf at *
          generalize (wv.alloc (.cells C 4)).alloc (.cells C 4) = V0 at *
          clear hmk1 hmk2 e0 s0 hgm hgf
          have HOV : Hid (∀ V Mf Ff, RnS wo gv cv gm gf K1.length r Mf Ff V → ∃ q m, OnS w1.heap.size w1 bk bs c gs gE ne cap E V q m K1 none 0 []) := fun V Mf Ff hR => HOB.out _ _ HO.out hR.be
          clear HO HOB
          have HVL : Hid (∀ V Mf Ff, RnS wo gv cv gm gf K1.length r Mf Ff V → RdO V V.heap.size (some ⟨gv, 0, none⟩) 6 (rowV r)) := fun V Mf Ff hR => hR.vals
          generalize rowV r = bv at *
          go_loopw [22, 23, 24, 25, 26, 27, 28] (fun xv _ _ _ _ _ _ wr => ∃ x : Nat, xv = .int .i64 (x : Int) ∧ x ≤ gs.length ∧ Hid (RnS wo gv cv gm gf K1.length r (modX bv gs K1 x) (freX gs K1 x) wr)) (fun xv _ _ _ _ _ _ _ => gs.length - (intOf xv).toNat)
          case atStart => exact ⟨0, rfl, by omega, HR0⟩
          case round =>
            clear HR0
            obtain ⟨x, rfl, hx, HRN⟩ := hrel
            have HLN := Lib.hid (HFR.out _ (HOV.out _ _ _ HRN.out)).2.1
            by_cases hlx : x < gs.length
            · -- C{
              have tx : decide ((x : Int) < (gs.length : Int)) = true := decide_eq_true (by omega)
              have tx2 : decide (x < gs.length) = true := decide_eq_true hlx
              have HVA := Lib.hid ((HFR.out _ (HOV.out _ _ _ HRN.out)).2.2.1 x (by omega))
              have hev := (HFR.out _ (HOV.out _ _ _ HRN.out)).2.2.2.2.1 bv (some ⟨gv, 0, none⟩) cv (2 * x) (HVL.out _ _ _ HRN.out) (by omega)
              rw [say_even, show ((2 * x : Nat) : Int) = 2 * (x : Int) by omega] at hev
              have HEV : Hid (Calls Try.prog 17 #[.pointer (some ⟨c.bg, 0, none⟩), .slice (some ⟨gv, 0, none⟩) 6 cv, .slice (some ⟨wr.heap.size, 0, none⟩) 1 1] (wr.alloc (.cells #[.int .u32 (2 * (x : Int))] 25))
                  fun e w' => ∃ g, e = .returned (.tuple #[.slice (some ⟨g, 0, none⟩) 1 1, .int .i64 0]) ∧ w'.cell? ⟨g, 0, none⟩ = some (.bool (tru bv gs x)) ∧ Hid (g < w'.heap.size) ∧ Hid (wr.heap.size ≤ g) ∧ Hid (Below wr.heap.size wr w')) := hev
              clear hev
              have hvl := vr_le K1 x
              by_cases hxK : x ∈ K1
              · obtain ⟨v1, hv1⟩ : ∃ v1, vr K1 x = v1 + 1 := ⟨vr K1 x - 1, by have := vr_pos.2 hxK; omega⟩
                have hv1L : v1 < K1.length := by omega
                rw [hv1, show ((v1 + 1 : Nat) : Int) = (v1 : Int) + 1 by omega] at HVA
                have tv0 : decide ((v1 : Int) + 1 < 0) = false := decide_eq_false (by omega)
                have tv1 : decide ((K1.length : Int) < (v1 : Int) + 1) = false := decide_eq_false (by omega)
                have tv2 : ((v1 : Int) + 1 == 0) = false := by rw [beq_eq_false_iff_ne]; omega
                have tv3 : decide ((K1.length : Int) ≤ (v1 : Int)) = false := decide_eq_false (by omega)
                have tv4 : decide (K1.length ≤ v1) = false := decide_eq_false (by omega)
                have HPA : Hid (∀ V, Below wr.heap.size wr V → Calls Try.prog 18 #[.pointer (some ⟨c.bg, 0, none⟩), .int .i64 (x : Int)] V fun r w' => r = .returned (.tuple #[.int .u32 (((getG gs x).1 : Nat) : Int), .int .u32 (((getG gs x).2 : Nat) : Int), .bool (andB gs x)]) ∧ Below V.heap.size V w') := fun V hV =>
                  (HFR.out _ (HOV.out _ _ _ (HRN.out.below hV))).2.2.2.1 x hlx
                have HST : Hid (∀ V, Below wr.heap.size wr V → (V.cell? ⟨gm, v1, none⟩ = some (.bool (modX bv gs K1 x v1)) ∧ V.frozen? ⟨gm, v1, none⟩ = false) ∧
                    ((V.setCell ⟨gm, v1, none⟩ (.bool (tru bv gs x))).cell? ⟨gf, v1, none⟩ = some (.bool (freX gs K1 x v1)) ∧ (V.setCell ⟨gm, v1, none⟩ (.bool (tru bv gs x))).frozen? ⟨gf, v1, none⟩ = false) ∧
                    ∀ z, z = freeG gs x → RnS wo gv cv gm gf K1.length r (modX bv gs K1 (x + 1)) (freX gs K1 (x + 1)) ((V.setCell ⟨gm, v1, none⟩ (.bool (tru bv gs x))).setCell ⟨gf, v1, none⟩ (.bool z))) := fun V hV => by
                  have h := HRN.out.below hV
                  obtain ⟨a1, a2, _, _⟩ := h.cells hv1L
                  have h2 := h.setM hv1L (tru bv gs x)
                  obtain ⟨_, _, b1, b2⟩ := h2.cells hv1L
                  refine ⟨⟨a1, a2⟩, ⟨b1, b2⟩, fun z hz => ?_⟩
                  subst hz
                  have hs := fun j (hj : j < K1.length) => step_some (vals := bv) HOK.out hxK hj
                  rw [hv1, show v1 + 1 - 1 = v1 by omega] at hs
                  exact (h2.setF hv1L (freeG gs x)).congr (fun j hj => (hs j hj).1) (fun j hj => (hs j hj).2)
                have HFG : Hid (freeG gs x = (!andB gs x && decide (0 < x))) := rfl
                generalize freeG gs x = fx at *
                generalize (getG gs x).1 = pa at *
                generalize (getG gs x).2 = pb at *
                generalize andB gs x = ob at *
                generalize tru bv gs x = tx0 at *
                generalize modX bv gs K1 x v1 = mo at *
                generalize freX gs K1 x v1 = fo at *
                clear HRN hv1 hxK hvl
                go_wp2_with fail
                refine HLN.out.mono ?_
                rintro e w' ⟨rfl, rfl⟩
                clear HLN
                go_wp2_with fail
                refine HVA.out.mono ?_
                rintro e w' ⟨rfl, rfl⟩
                clear HVA
                go_wp2_with fail
                refine HEV.out.mono ?_
                rintro e w5 ⟨g, rfl, hg0, hg1, hg2, hb5⟩
                have HPX := Lib.hid (HPA.out w5 hb5.out)
                clear HEV HPA
                go_wp2_with fail
                refine HPX.out.mono ?_
                rintro e w6 ⟨rfl, hb6⟩
                have hg0' : w6.cell? ⟨g, 0, none⟩ = some (.bool tx0) := (hb6.cell (p := ⟨g, 0, none⟩) hg1.out).trans hg0
                obtain ⟨⟨a1, a2⟩, ⟨b1, b2⟩, hN⟩ := HST.out w6 (hb5.out.trans (hb6.mono hb5.out.size))
                have HN := Lib.hid hN
                clear hg0 hg1 hg2 hb5 hb6 HPX HST hN
                cases ob with
                | true =>
                  have HN2 := Lib.hid (HN.out false (by rw [HFG.out]; rfl))
                  clear HN HFG
                  go_wp2_with fail
                  go_roundw
                  case rel => exact ⟨x + 1, by go_num, by omega, HN2⟩
                  case measure => simp [intOf]; omega
                | false =>
                  have HN2 := Lib.hid (HN.out (decide (0 < x)) (by rw [HFG.out]; rfl))
                  clear HN HFG
                  cases x with
                  | zero =>
                    go_wp2_with fail
                    go_roundw
                    case rel => exact ⟨1, by go_num, by omega, HN2⟩
                    case measure => simp [intOf]; omega
                  | succ x1 =>
                    have t0 : decide ((0 : Int) < ((x1 + 1 : Nat) : Int)) = true := decide_eq_true (by omega)
                    have t0' : decide ((0 : Int) < (x1 : Int) + 1) = true := decide_eq_true (by omega)
                    go_wp2_with fail
                    go_roundw
                    case rel => exact ⟨x1 + 1 + 1, by go_num, by omega, HN2⟩
                    case measure => simp [intOf]; omega
              · have hv0 := vr_zero hxK
                rw [hv0] at HVA
                have tv1 : decide ((K1.length : Int) < 0) = false := decide_eq_false (by omega)
                have HN : Hid (∀ V, Below wr.heap.size wr V → RnS wo gv cv gm gf K1.length r (modX bv gs K1 (x + 1)) (freX gs K1 (x + 1)) V) := fun V hV => (HRN.out.below hV).congr (fun j hj => (step_none hxK hj).1) (fun j hj => (step_none (vals := bv) hxK hj).2)
                generalize tru bv gs x = tx0 at *
                clear HRN hv0 hxK hvl
                go_wp2_with fail
                refine HLN.out.mono ?_
                rintro e w' ⟨rfl, rfl⟩
                clear HLN
                go_wp2_with fail
                refine HVA.out.mono ?_
                rintro e w' ⟨rfl, rfl⟩
                clear HVA
                go_wp2_with fail
                refine HEV.out.mono ?_
                rintro e w5 ⟨g, rfl, hg0, hg1, hg2, hb5⟩
                have HN2 := Lib.hid (HN.out w5 hb5.out)
                clear HEV HN hg0 hg1 hg2 hb5
                go_wp2_with fail
                go_roundw
                case rel => exact ⟨x + 1, by go_num, by omega, HN2⟩
                case measure => simp [intOf]; omega
              -- C}
            · obtain rfl : x = gs.length := by omega
              have tx : decide ((gs.length : Int) < (gs.length : Int)) = false := decide_eq_false (by omega)
              have tx2 : decide (gs.length < gs.length) = false := decide_eq_false (by omega)
              obtain ⟨bm, hbm⟩ : ∃ bm, bm = modelL bv gs K1 := ⟨_, rfl⟩
              have hbl : bm.length = K1.length := by rw [hbm]; unfold modelL; rw [List.length_map]
              have HRM : Hid (RnS wo gv cv gm gf K1.length r (fun j => bm.getD j false) (fun j => freeG gs (K1.getD j 0)) wr) := HRN.out.congr (fun j hj => by rw [hbm]; exact (end_model HOK.out hj).1.symm) (fun j hj => (end_model (vals := bv) HOK.out hj).2.symm)
              have HFA : Hid (∀ V Mf Ff bs', RnS wo gv cv gm gf K1.length r Mf Ff V → bs'.length = K1.length → (∀ j, j < K1.length → Mf j = bs'.getD j false) → ∃ Ac cc, V.cell? ⟨bs, 0, none⟩ = some (.int .i64 (K1.length : Int)) ∧ V.cell? ⟨bs, 1, none⟩ = some (.slice Ac (clsK gs K1).length cc) ∧
                  Calls Try.prog 19 #[.agg #[.int .i64 (K1.length : Int), .slice Ac (clsK gs K1).length cc], .slice (some ⟨gm, 0, none⟩) K1.length K1.length] V fun e w' => e = .returned (.tuple #[.int .i64 (falseV (K1.length : Int) (clsK gs K1) bs'), .int .i64 (falseE (K1.length : Int) (clsK gs K1) bs')]) ∧ Below V.heap.size V w') := fun V Mf Ff bs' hR hl hb => by
                obtain ⟨Ac, cc, s0, s1, hF⟩ := (HFR.out V (HOV.out _ _ _ hR)).1
                obtain ⟨_, f2, f3, f4⟩ := cls_facts HOK.out (by omega)
                exact ⟨Ac, cc, s0, s1, rfalse_any _ Ac _ cc _ (some ⟨gm, 0, none⟩) K1.length K1.length bs' V hF f2 f4 f3 (hR.model hl hb).rdB (by omega)⟩
              have hfm := false_model (vals := bv) HWF.out HOK.out (by omega)
              have HFT : Hid (∀ j, j < K1.length → freeG gs (K1.getD j 0) = false → 0 ≤ falseV (K1.length : Int) (clsK gs K1) (bm.set j (!bm.getD j false))) := fun j hj hf => by rw [hbm]; exact false_turned HWF.out HOK.out (by omega) hj hf
              have HML : Hid (∀ x, x / 2 ∈ K1 → litB' bm K1 x = sayE bv gs x) := fun x hx => by rw [hbm]; exact model_lit HOK.out hx
              rw [← hbm] at hfm
              clear HRN hbm
              go_wp2_with fail
              refine HLN.out.mono ?_
              rintro e w' ⟨rfl, rfl⟩
              clear HLN
              obtain ⟨Ac, cc, s0, s1, hfa⟩ := HFA.out wr _ _ bm HRM.out hbl (fun j _ => rfl)
              rw [hfm.1, hfm.2] at hfa
              have HFB := Lib.hid hfa
              clear hfa hfm
              generalize hnf : (clsK gs K1).length = nf at s1 HFB
              go_wp2_with fail
              refine HFB.out.mono ?_
              rintro e w5 ⟨rfl, hb5⟩
              have HR5 := Lib.hid (HRM.out.below hb5)
              clear hb5 HFB HRM s0 s1 hnf
              go_wp2_with fail
              obtain ⟨wp, rfl⟩ : ∃ wp : World, wp = wr := ⟨_, rfl⟩
              go_loopw [199, 31, 32, 33] (fun jv _ _ _ wr => ∃ j : Nat, jv = .int .i64 (j : Int) ∧ j ≤ K1.length ∧ Hid (RnS wo gv cv gm gf K1.length r (fun j => bm.getD j false) (fun j => freeG gs (K1.getD j 0)) wr)) (fun jv _ _ _ _ => K1.length - (intOf jv).toNat)
              case atStart => exact ⟨0, rfl, by omega, HR5⟩
              case round =>
                clear HR5
                obtain ⟨j, rfl, hj, HRM⟩ := hrel
                by_cases hlj : j < K1.length
                · -- D{
                  have tj : decide ((j : Int) < (K1.length : Int)) = true := decide_eq_true (by omega)
                  have tj2 : decide (j < K1.length) = true := decide_eq_true hlj
                  have tj3 : decide ((K1.length : Int) ≤ (j : Int)) = false := decide_eq_false (by omega)
                  have tj4 : decide (K1.length ≤ j) = false := decide_eq_false (by omega)
                  obtain ⟨y1, a2, y3, y4⟩ := HRM.out.cells hlj
                  obtain ⟨b, hb⟩ : ∃ b, b = bm.getD j false := ⟨_, rfl⟩
                  have a1 : wr.cell? ⟨gm, j, none⟩ = some (.bool b) := by rw [hb]; exact y1
                  clear y1 y3 y4
                  have hS := HRM.out.setM hlj (!b)
                  have hSm : ∀ k, k < K1.length → updB (fun j => bm.getD j false) j (!b) k = (bm.set j (!b)).getD k false := fun k hk => by
                    unfold updB
                    by_cases e : k = j
                    · subst e; rw [if_pos rfl]; simp [List.getD, hbl, hk]
                    · rw [if_neg e]; simp [List.getD, List.getElem?_set_ne (fun e2 => e e2.symm)]
                  obtain ⟨Ac, cc, s0, s1, hfa⟩ := HFA.out _ _ _ (bm.set j (!b)) hS (by rw [List.length_set]; exact hbl) hSm
                  have HFT2 := Lib.hid (HFT.out j hlj)
                  rw [← hb] at HFT2
                  have HST : Hid (∀ V, Below wr.heap.size (wr.setCell ⟨gm, j, none⟩ (.bool (!b))) V → V.cell? ⟨gm, j, none⟩ = some (.bool (!b)) ∧ V.frozen? ⟨gm, j, none⟩ = false ∧ V.cell? ⟨gf, j, none⟩ = some (.bool (freeG gs (K1.getD j 0))) ∧
                      RnS wo gv cv gm gf K1.length r (fun j => bm.getD j false) (fun j => freeG gs (K1.getD j 0)) (V.setCell ⟨gm, j, none⟩ (.bool b))) := fun V hV => by
                    have hV : Below (wr.setCell ⟨gm, j, none⟩ (.bool (!b))).heap.size (wr.setCell ⟨gm, j, none⟩ (.bool (!b))) V := by
                      rw [show (wr.setCell ⟨gm, j, none⟩ (.bool (!b))).heap.size = wr.heap.size by simp [World.setCell]]; exact hV
                    have h2 := hS.below hV
                    obtain ⟨c1, c2, c3, _⟩ := h2.cells hlj
                    refine ⟨by rw [c1]; unfold updB; rw [if_pos rfl], c2, c3, (h2.setM hlj b).congr (fun k hk => ?_) (fun k hk => rfl)⟩
                    unfold updB
                    by_cases e : k = j
                    · rw [if_pos e, e, hb]
                    · rw [if_neg e, if_neg e]
                  have hfs : (wr.setCell ⟨gm, j, none⟩ (.bool (!b))).heap.size = wr.heap.size := by simp [World.setCell]
                  rw [hfs] at hfa
                  generalize falseV (K1.length : Int) (clsK gs K1) (bm.set j (!b)) = z at *
                  generalize falseE (K1.length : Int) (clsK gs K1) (bm.set j (!b)) = z2 at *
                  have HFB := Lib.hid hfa
                  generalize (clsK gs K1).length = nf at s1 HFB
                  generalize freeG gs (K1.getD j 0) = fr at *
                  obtain ⟨wS, hwS⟩ : ∃ wS, wS = wr.setCell ⟨gm, j, none⟩ (.bool (!b)) := ⟨_, rfl⟩
                  rw [← hwS] at s0 s1 HFB HST
                  have HWS := Lib.hid hwS
                  have S0 := Lib.hid s0
                  have S1 := Lib.hid s1
                  clear hS hSm hfa hfs HRM hb hwS s0 s1
                  go_upto_region 41 with (fail)
                  rw [← HWS.out]
                  have s0 := S0.out
                  have s1 := S1.out
                  clear S0 S1 HWS a1 a2
                  go_wp2_with fail
                  refine HFB.out.mono ?_
                  rintro e w6 ⟨rfl, hb6⟩
                  obtain ⟨c1, c2, c3, hN⟩ := HST.out w6 hb6
                  have HN := Lib.hid hN
                  clear hN hb6 HST HFB s0 s1
                  cases fr with
                  | true =>
                    go_wp2_with fail
                    go_roundw
                    case rel => exact ⟨j + 1, by go_num, by omega, HN⟩
                    case measure => simp [intOf]; omega
                  | false =>
                    have tz : decide (z < 0) = false := decide_eq_false (by have := HFT2.out rfl; omega)
                    go_wp2_with fail
                    go_roundw
                    case rel => exact ⟨j + 1, by go_num, by omega, HN⟩
                    case measure => simp [intOf]; omega
                  -- D}
                · obtain rfl : j = K1.length := by omega
                  have tj : decide ((K1.length : Int) < (K1.length : Int)) = false := decide_eq_false (by omega)
                  have tj2 : decide (K1.length < K1.length) = false := decide_eq_false (by omega)
                  clear HFA HFT
                  have HR6 := HRM
                  clear HRM
                  go_wp2_with fail
                  obtain ⟨wq, rfl⟩ : ∃ wq : World, wq = wr := ⟨_, rfl⟩
                  go_loopw [239, 35, 36, 37, 38, 39, 40] (fun jv _ _ _ _ _ _ wr => ∃ j : Nat, jv = .int .i64 (j : Int) ∧ j ≤ i ∧ Hid (RnS wo gv cv gm gf K1.length r (fun j => bm.getD j false) (fun j => freeG gs (K1.getD j 0)) wr)) (fun jv _ _ _ _ _ _ _ => i - (intOf jv).toNat)
                  case atStart => exact ⟨0, rfl, by omega, HR6⟩
                  case round =>
                    clear HR6
                    obtain ⟨j, rfl, hj, HRM⟩ := hrel
                    by_cases hlj : j < i
                    · -- E{
                      have tj : decide ((j : Int) < (i : Int)) = true := decide_eq_true (by omega)
                      have tj2 : decide (j < i) = true := decide_eq_true hlj
                      obtain ⟨qa, hqa⟩ : ∃ q, q = clampZ ne (rs.getD j 0) := ⟨_, rfl⟩
                      have hqal : qa < ne := by rw [hqa]; exact clamp_lt (by omega) _
                      have hya : max 0 (min (rs.getD j 0) ((ne : Int) - 1)) = (qa : Int) := by rw [hqa]; unfold clampZ; omega
                      have tq : decide ((ne : Int) ≤ (qa : Int)) = false := decide_eq_false (by omega)
                      have tq2 : decide (ne ≤ qa) = false := decide_eq_false (by omega)
                      obtain ⟨x3, _, hrd⟩ := HED.out wr qa (HOV.out _ _ _ HRM.out) hqal
                      obtain ⟨b, o, rfl, hb, hc⟩ := hrd.get hlj
                      have hxi := HIN.out qa hqal
                      have hxK : E.getD qa 0 / 2 ∈ K1 := by have := HRT.out j hlj; unfold xe at this; rw [← hqa] at this; exact this
                      have HEV : Hid (Calls Try.prog 17 #[.pointer (some ⟨c.bg, 0, none⟩), .slice (some ⟨gv, 0, none⟩) 6 cv, .slice (some ⟨wr.heap.size, 0, none⟩) 1 1] (wr.alloc (.cells #[.int .u32 ((E.getD qa 0 : Nat) : Int)] 25))
                          fun e w' => ∃ g, e = .returned (.tuple #[.slice (some ⟨g, 0, none⟩) 1 1, .int .i64 0]) ∧ w'.cell? ⟨g, 0, none⟩ = some (.bool (sayE bv gs (E.getD qa 0))) ∧ Hid (g < w'.heap.size) ∧ Hid (wr.heap.size ≤ g) ∧ Hid (Below wr.heap.size wr w')) :=
                        (HFR.out _ (HOV.out _ _ _ HRM.out)).2.2.2.2.1 bv (some ⟨gv, 0, none⟩) cv (E.getD qa 0) (HVL.out _ _ _ HRM.out) hxi
                      have HVU : Hid (∀ V, Below wr.heap.size wr V → Calls Try.prog 12 #[.pointer (some ⟨bk, 0, none⟩), .slice (some ⟨gm, 0, none⟩) K1.length K1.length, .int .u32 ((E.getD qa 0 : Nat) : Int)] V
                          fun r w' => r = .returned (.tuple #[.bool (sayE bv gs (E.getD qa 0)), .bool true]) ∧ Below V.heap.size V w') := fun V hV => by
                        have hR := HRM.out.below hV
                        have := (HFR.out _ (HOV.out _ _ _ hR)).2.2.2.2.2.1 bm (some ⟨gm, 0, none⟩) K1.length (E.getD qa 0) (hR.model hbl (fun j _ => rfl)) hxi hxK
                        rw [HML.out _ hxK] at this
                        exact this
                      have HN : Hid (∀ V, Below wr.heap.size wr V → RnS wo gv cv gm gf K1.length r (fun j => bm.getD j false) (fun j => freeG gs (K1.getD j 0)) V) := fun V hV => HRM.out.below hV
                      generalize sayE bv gs (E.getD qa 0) = sx at *
                      generalize E.getD qa 0 = x at *
                      generalize rs.getD j 0 = y at *
                      clear HRM hqa hxi hxK hrd hb
                      go_wp2_with fail
                      refine HEV.out.mono ?_
                      rintro e w5 ⟨g, rfl, hg0, hg1, hg2, hb5⟩
                      have HVX := Lib.hid (HVU.out w5 hb5.out)
                      have HN5 := Lib.hid (HN.out w5 hb5.out)
                      clear HEV HVU HN x3 hc hya tq tq2
                      go_wp2_with fail
                      refine HVX.out.mono ?_
                      rintro e w6 ⟨rfl, hb6⟩
                      have hg0' : w6.cell? ⟨g, 0, none⟩ = some (.bool sx) := (hb6.cell (p := ⟨g, 0, none⟩) hg1.out).trans hg0
                      have HN6 := Lib.hid (HN5.out.below hb6)
                      clear hg0 hg1 hg2 hb5 hb6 HVX HN5
                      go_wp2_with fail
                      go_roundw
                      case rel => exact ⟨j + 1, by go_num, by omega, HN6⟩
                      case measure => simp [intOf]; omega
                      -- E}
                    · obtain rfl : j = i := by omega
                      have tj : decide ((j : Int) < (j : Int)) = false := decide_eq_false (by omega)
                      have tj2 : decide (j < j) = false := decide_eq_false (by omega)
                      have HOE := Lib.hid (HOV.out _ _ _ HRM.out)
                      clear HRM HML hbl
                      go_wp2_with fail
                      go_roundw
                      case rel => exact ⟨r + 1, by go_num, by omega, HOE⟩
                      case measure => simp [intOf]; omega
        · have tr : decide ((r : Int) < 64) = false := decide_eq_false (by omega)
          have tr2 : decide (r < 64) = false := decide_eq_false hr64
          obtain ⟨⟨Ac, cc, s0, _, _⟩, _, _, _, _, _, _, hbe⟩ := HFR.out wr HO.out
          have HKN : Hid (∀ z, Calls Try.prog 20 #[.pointer (some ⟨bk, 0, none⟩)] (wr.drewN z) fun r w' => r = .returned (.int .i64 (K1.length : Int)) ∧ w' = wr.drewN z) := fun z =>
            ((HFR.out _ (HOB.out _ _ HO.out (below_drewN (Below.refl wr.heap.size wr) z))).2.2.2.2.2.2.1).mono fun _ _ ⟨a, b⟩ => ⟨a, b.symm⟩
          have HBE : Hid (∀ z, Below w.heap.size w (wr.drewN z)) := fun z => below_drewN hbe z
          generalize K1.length = kl at *
          clear hbe HFR HOB HED HO
          go_wp2_with fail
          go_upto_region 55 with (fail)
          go_quiet ((go_at_call 20; exact Calls.quiet_of_same (HKN.out _)))
          go_wp2_with fail
          go_ret
          exact ⟨by simp, HBE.out _⟩

set_option maxHeartbeats 800000 in
set_option maxRecDepth 100000 in
theorem lifted (os : Os) (started : os.Started) (H : Type) (enc : TypeId × Value → H) :
    ReturnsInHanded {} Try.checked os 4 .any (Rows.knitRunsSpec.pre6 enc Try.prog Try.f4 Rows.knitRunsRow.domain false) (Rows.knitRunsSpec.post enc Try.prog Try.f4 false true false false) := by
  refine returnsInHanded_of_change (C := Try.checked) own_knob started (by kernel_rfl) Try.func4
    (ChangeSpec.witness6 (enc := enc) (C := Try.checked) false ⟨#[], #[.int .i64 0, .slice none 0 0, .slice none 0 0], []⟩ 8 (by kernel_rfl) (by kernel_rfl) (by kernel_rfl) (by kernel_rfl)) ?_
  intro W base args ds gs before hval0 hW _ _
  have hval : ∀ (j : Nat) t v, Try.f4.params[j]? = some t → args[j]? = some v → Value.okWide Try.prog W .any base t v := hval0
  have hW' := hW
  obtain ⟨p, q, hA0, hV, rfl, _, _⟩ := hW
  have hA : DataW.TrodAll enc Try.prog W 0 (fun _ => true) true Try.f4.params.toList args.toList ds p := hA0
  rw [Try.params4] at hA hval
  obtain ⟨v0, v1, v2, d0, d1, d2, p0, p1, p2, rfl, rfl, rfl, h0, h1, h2⟩ := trodAll_three hA
  obtain ⟨rfl, rfl⟩ := trodVars_none hV
  obtain ⟨a0, rfl, rfl, rfl, w0⟩ := open_int Try.underlying3 (hval 0 3 v0 rfl rfl) h0
  obtain ⟨A1, n1, c1, rfl, hR1, _⟩ := open_kacts (hval 1 44 v1 rfl rfl) h1
  obtain ⟨A2, n2, c2, xs2, rfl, hR2, _⟩ := open_kints (hval 2 45 v2 rfl rfl) h2
  clear hA0 hval0
  simp only [List.append_nil, List.nil_append] at hW'
  have hlt1 : ∀ y ∈ p1, y.block < W.heap.size := fun y hy => by simpa using hW'.lt y (by simp [hy])
  have hlt2 : ∀ y ∈ p2, y.block < W.heap.size := fun y hy => by simpa using hW'.lt y (by simp [hy])
  refine (walk a0 A1 n1 c1 A2 n2 c2 xs2 W hR1 hR2).mono fun e W' ⟨he, hB⟩ => ?_
  subst he
  exact ⟨_, rfl, _, _, _, [], _, [], hW', trodAll_mk1 (shut_bool Try.underlying4 true), trodAll_mk3 (shut_int Try.underlying3 w0) (Below.trod laid_out (by kernel_rfl) (of_decide_eq_true (by kernel_rfl)) h1 hB hlt1) (Below.trod laid_out (by kernel_rfl) (of_decide_eq_true (by kernel_rfl)) h2 hB hlt2), rfl, hB.frame _, fun h => by cases h⟩

theorem proved : Rows.KnitRunsSaid :=
  OpenClaim.holds_of_wide 4 Try.f4 rfl rfl rfl rfl rfl rfl rfl ⟨rfl, rfl, rfl, rfl, rfl⟩ rfl rfl rfl rfl rfl (by kernel_rfl) Try.func4 (by kernel_rfl)
    (of_decide_eq_true (by kernel_rfl)) (by unfold Func.isWrapper; first | (rw [if_pos (by decide +kernel)]; kernel_rfl) | (rw [if_neg (by decide +kernel)]; exact ⟨rfl, rfl⟩))
    (fun os started H enc _ => lifted os started H enc)
end Go.Proofs.Ytmiifhclcknhdaa.KRuns
namespace Go.Proofs.Ytmiifhclcknhdaa
theorem knitRuns_holds : Rows.KnitRunsSaid := KRuns.proved
#print axioms knitRuns_holds
end Go.Proofs.Ytmiifhclcknhdaa
