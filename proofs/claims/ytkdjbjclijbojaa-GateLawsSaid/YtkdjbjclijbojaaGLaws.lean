/- GateLaws is true: the statement Rows.GateLawsSaid, without a condition. -/
import Derived.Test.YtkdjbjclijbojaaGlms
import Derived.Test.YtkdjbjclijbojaaGliv
namespace Go.Proofs.Ytkdjbjclijbojaa.GLaws
open Go.ChangeShapes Go.WideShapes Go.ChangeAt Go.RowKit GatM LitM

theorem own_knob : ownKnob Try.prog.godebug = none := by kernel_rfl
theorem laid_out : laidOutB Try.prog = true := by kernel_rfl
set_option maxHeartbeats 6400000 in
set_option maxRecDepth 100000 in
theorem walk (nn : Int) (A : Option Addr) (n c : Nat) (K : Nat → Int) (P : Nat → List Int) (x y : Int) (w : World) (hx : RdQ w w.heap.size A n K P) :
    Calls Try.prog 7 #[.int .i64 nn, .slice A n c, .agg #[.int .i64 x, .int .i64 y]] w fun e w' => e = .returned (.bool true) ∧ Below w.heap.size w w' := by
  obtain ⟨W0, hW0⟩ : ∃ W0, W0 = w.alloc (.cells #[.int .i64 x, .int .i64 y] 54) := ⟨_, rfl⟩
  have hB0 : Below w.heap.size w W0 := by rw [hW0]; exact (Below.refl _ _).alloc (Nat.le_refl _) _
  have HX := Lib.hid (hx.belo hB0)
  have HT : Hid (∀ W, Below W0.heap.size W0 W → W.cell? ⟨w.heap.size, 0, none⟩ = some (.int .i64 x) ∧ W.cell? ⟨w.heap.size, 1, none⟩ = some (.int .i64 y)) := fun W hb => by
    have hs : w.heap.size < W0.heap.size := by rw [hW0]; simp
    have e1 : W0.heap[w.heap.size]? = some (.cells #[.int .i64 x, .int .i64 y] 54 (0, 0)) := by rw [hW0]; exact blk_new w _
    refine ⟨?_, ?_⟩
    all_goals (rw [hb.cell (by exact hs), Lib.cell_of_heap e1]; rfl)
  clear hx
  go_enter Try.func7, Try.ntmps7
  go_wp2_with fail
  rw [← hW0]
  refine (galive_any W0).mono ?_
  rintro e w1 ⟨rfl, hb1⟩
  have HTW : Hid (∀ W, Below w1.heap.size w1 W → W.cell? ⟨w.heap.size, 0, none⟩ = some (.int .i64 x) ∧ W.cell? ⟨w.heap.size, 1, none⟩ = some (.int .i64 y)) := fun W hW => HT.out W (hb1.trans (hW.mono hb1.size))
  replace hb1 := And.intro (hB0.trans (hb1.mono hB0.size)) hb1
  obtain ⟨hbw, hb1⟩ := hb1
  clear HT hB0
  by_cases hv0 : nn < 0
  · have t1 : decide (nn < 0) = true := decide_eq_true hv0
    go_wp2_with fail
    go_ret
    exact ⟨rfl, hbw⟩
  have t1 : decide (nn < 0) = false := decide_eq_false hv0
  by_cases hv1 : 6 < nn
  · have t2 : decide (6 < nn) = true := decide_eq_true hv1
    go_wp2_with fail
    go_ret
    exact ⟨rfl, hbw⟩
  have t2 : decide (6 < nn) = false := decide_eq_false hv1
  by_cases hv2 : 30 < n
  · have t3 : decide (30 < n) = true := decide_eq_true hv2
    have t4 : decide (30 < (n : Int)) = true := decide_eq_true (by omega)
    go_wp2_with fail
    go_ret
    exact ⟨rfl, hbw⟩
  have t3 : decide (30 < n) = false := decide_eq_false hv2
  have t4 : decide (30 < (n : Int)) = false := decide_eq_false (by omega)
  obtain ⟨N, rfl⟩ : ∃ N : Nat, nn = (N : Int) := ⟨nn.toNat, by omega⟩
  have hN : N ≤ 6 := by omega
  have HBW : Hid (∀ W, Below w1.heap.size w1 W → Below w.heap.size w W) := fun W hW => hbw.trans (hW.mono hbw.size)
  have HXW : Hid (∀ W, Below w1.heap.size w1 W → RdQ W W.heap.size A n K P) := fun W hW => HX.out.belo (hb1.trans (hW.mono hb1.size))
  have HS := Lib.hid (gstart_any N hN w1)
  clear hb1 hbw HX
  go_wp2_with fail
  refine HS.out.mono ?_
  rintro e w2 ⟨bk, rfl, hst⟩
  have HM0 : Hid (MAt w1 bk (runS N K P 0) w2) := hst
  clear hst HS hW0 t1 t2 t3 t4 hv0 hv1
  go_wp2_with fail
  go_loopw [51] (fun iv wr => ∃ j : Nat, iv = .int .i64 (j : Int) ∧ j ≤ n ∧ Hid (∀ i, i < j → (P i).length ≤ 10) ∧ Hid (MAt w1 bk (runS N K P j) wr)) (fun iv _ => n - (intOf iv).toNat)
  case atStart => exact ⟨0, rfl, by omega, Lib.hid fun i hi => absurd hi (by omega), HM0⟩
  case round =>
    clear HM0
    obtain ⟨j, rfl, hj, HP, HM⟩ := hrel
    have HL : Hid (Below w1.heap.size w1 wr) := by
      obtain ⟨k, c, _, h⟩ := HM.out
      exact h.lv.be
    by_cases hlt : j < n
    case neg =>
      obtain rfl : j = n := by omega
      have tj : decide (j < j) = false := decide_eq_false (by omega)
      have tj2 : decide ((j : Int) < (j : Int)) = false := decide_eq_false (by omega)
      have HO := Lib.hid (okRun N hN K P j HP.out)
      have HI : Hid ((insL (runS N K P j).1).length = N) := Lib.hid (by rw [runIns N K P j, startIns])
      clear HXW
      generalize runS N K P j = s at *
      obtain ⟨k, c, hk, hm⟩ := HM.out
      subst hk
      have HMk := Lib.hid hm
      clear hm HM HP
      obtain ⟨gs, E, T⟩ := s
      replace HMk : Hid (Mkr w1.heap.size w1 wr k c gs E T) := HMk
      replace HO : Hid (OkS (gs, E, T) (N + 1 + 11 * j) (N + 2 + j)) := HO
      have hgl : gs.length ≤ 1000 := by have : gs.length ≤ _ := HO.out.gts; omega
      have hel : E.length ≤ 1000 := by have : E.length = _ := HO.out.len; omega
      have he2 : 2 ≤ E.length := by have : E.length = _ := HO.out.len; omega
      obtain ⟨qa, hqa⟩ : ∃ q, q = clampZ E.length x := ⟨_, rfl⟩
      have hqal : qa < E.length := by rw [hqa]; exact clamp_lt (by omega) _
      have hya : max 0 (min x ((E.length : Int) - 1)) = (qa : Int) := by rw [hqa]; unfold clampZ; omega
      obtain ⟨qb, hqb⟩ : ∃ q, q = clampZ E.length y := ⟨_, rfl⟩
      have hqbl : qb < E.length := by rw [hqb]; exact clamp_lt (by omega) _
      have hyb : max 0 (min y ((E.length : Int) - 1)) = (qb : Int) := by rw [hqb]; unfold clampZ; omega
      have tq : decide ((E.length : Int) ≤ (qa : Int)) = false := decide_eq_false (by omega)
      have tq2 : decide (E.length ≤ qa) = false := decide_eq_false (by omega)
      have tr : decide ((E.length : Int) ≤ (qb : Int)) = false := decide_eq_false (by omega)
      have tr2 : decide (E.length ≤ qb) = false := decide_eq_false (by omega)
      have ia := in_get HO.out.agr.inn hqal
      have ib := in_get HO.out.agr.inn hqbl
      obtain ⟨r, f, s, gs1, gs2, gs3, hLP⟩ := laws_pure HO.out.wf ia ib
      have HLP := Lib.hid hLP
      obtain ⟨x0, x1, _⟩ := HMk.out.mk'.cells
      have hrd := HMk.out.mk'.er.rdn
      obtain ⟨b0, o0, hAt, hbk, hca⟩ := hrd.get hqal
      obtain ⟨b1, o1, hAt2, hbk2, hcb⟩ := hrd.get hqbl
      rw [hAt] at hAt2
      injection hAt2 with hAt2
      injection hAt2 with z1 z2
      subst z1; subst z2
      rw [hAt] at x1
      obtain ⟨y0, y1⟩ := HTW.out _ HL.out
      have HMS : Hid (∀ q, MS w1.heap.size w1 k c.bg E T gs (wr.drewN q)) := fun q => MS.below ⟨c, rfl, HMk.out⟩ (below_drewN (Below.refl _ _) q)
      replace hLP : LawsP gs (E.getD qa 0) (E.getD qb 0) r f s gs1 gs2 gs3 := hLP
      replace HLP : Hid (LawsP gs (E.getD qa 0) (E.getD qb 0) r f s gs1 gs2 gs3) := HLP
      have l1 := hLP.l1
      have l2 := hLP.l2
      have l3 := hLP.l3
      obtain ⟨i0a, i0b⟩ := hLP.i0
      obtain ⟨i1a, i1b, i1r⟩ := hLP.i1
      generalize E.getD qa 0 = a at *
      generalize E.getD qb 0 = b at *
      obtain ⟨bg, hbg⟩ : ∃ bg, bg = c.bg := ⟨_, rfl⟩
      rw [← hbg] at HMS x0
      clear hqa hqb ia ib hLP hrd HMk HO HI hAt hbg HTW HL
      go_upto_region 15 with (fail)
      go_quiet (fail)
      rename_i nq
      have HM1 := Lib.hid (HMS.out nq)
      generalize wr.drewN nq = wa at *
      clear HMS hca hcb x0 x1 y0 y1 hya hyb tq tq2 tr tr2
      have ha2 : a < 4294967296 := by omega
      have hb2 : b < 4294967296 := by omega
      have hr2 : r < 4294967296 := by omega
      have xa := xor_one ha2
      have xb := xor_one hb2
      have ta : turnE a / 2 = a / 2 := turn_div a
      have tb : turnE b / 2 = b / 2 := turn_div b
      have in2 : ∀ {g : Gs} {u v : Nat}, u / 2 < g.length → v / 2 < g.length → AllIn g [u, v] := fun p q z hz => by
        simp only [List.mem_cons, List.not_mem_nil, or_false] at hz
        rcases hz with rfl | rfl
        · exact p
        · exact q
      have H1 : Hid (∀ W, MS w1.heap.size w1 k bg E T gs W → Calls Try.prog 9 #[.pointer (some ⟨bg, 0, none⟩), .slice (some ⟨W.heap.size, 0, none⟩) 2 2] (W.alloc (.cells #[.int .u32 (a : Int), .int .u32 (a : Int)] 25)) fun e w' => e = .returned (.tuple #[.int .u32 (a : Int), .int .i64 0]) ∧ Hid (MS w1.heap.size w1 k bg E T gs w')) := fun W h => h.and [a, a] (in2 i0a i0a) (by simp; omega) HLP.out.e1
      have H2 : Hid (∀ W, MS w1.heap.size w1 k bg E T gs W → Calls Try.prog 9 #[.pointer (some ⟨bg, 0, none⟩), .slice (some ⟨W.heap.size, 0, none⟩) 2 2] (W.alloc (.cells #[.int .u32 (a : Int), .int .u32 ((turnE a : Nat) : Int)] 25)) fun e w' => e = .returned (.tuple #[.int .u32 0, .int .i64 0]) ∧ Hid (MS w1.heap.size w1 k bg E T gs w')) := fun W h => h.and [a, turnE a] (in2 i0a (by omega)) (by simp; omega) HLP.out.e2
      have H3 : Hid (∀ W, MS w1.heap.size w1 k bg E T gs W → Calls Try.prog 15 #[.pointer (some ⟨bg, 0, none⟩), .slice (some ⟨W.heap.size, 0, none⟩) 2 2] (W.alloc (.cells #[.int .u32 (a : Int), .int .u32 ((turnE a : Nat) : Int)] 25)) fun e w' => e = .returned (.tuple #[.int .u32 1, .int .i64 0]) ∧ Hid (MS w1.heap.size w1 k bg E T gs w')) := fun W h => h.or [a, turnE a] (in2 i0a (by omega)) (by simp; omega) HLP.out.e3
      have H4 : Hid (∀ W, MS w1.heap.size w1 k bg E T gs W → Calls Try.prog 9 #[.pointer (some ⟨bg, 0, none⟩), .slice (some ⟨W.heap.size, 0, none⟩) 3 3] (W.alloc (.cells #[.int .u32 (a : Int), .int .u32 1, .int .u32 (b : Int)] 25)) fun e w' => e = .returned (.tuple #[.int .u32 (r : Int), .int .i64 0]) ∧ Hid (MS w1.heap.size w1 k bg E T gs1 w')) := fun W h => h.and [a, 1, b] (by intro z hz; simp only [List.mem_cons, List.not_mem_nil, or_false] at hz; rcases hz with rfl | rfl | rfl <;> omega) (by simp; omega) HLP.out.e4
      have H5 : Hid (∀ W, MS w1.heap.size w1 k bg E T gs1 W → Calls Try.prog 9 #[.pointer (some ⟨bg, 0, none⟩), .slice (some ⟨W.heap.size, 0, none⟩) 2 2] (W.alloc (.cells #[.int .u32 (b : Int), .int .u32 (a : Int)] 25)) fun e w' => e = .returned (.tuple #[.int .u32 (r : Int), .int .i64 0]) ∧ Hid (MS w1.heap.size w1 k bg E T gs1 w')) := fun W h => h.and [b, a] (in2 i1b i1a) (by simp; omega) HLP.out.e5
      have H6 : Hid (∀ W, MS w1.heap.size w1 k bg E T gs1 W → Calls Try.prog 15 #[.pointer (some ⟨bg, 0, none⟩), .slice (some ⟨W.heap.size, 0, none⟩) 2 2] (W.alloc (.cells #[.int .u32 ((turnE a : Nat) : Int), .int .u32 ((turnE b : Nat) : Int)] 25)) fun e w' => e = .returned (.tuple #[.int .u32 ((turnE r : Nat) : Int), .int .i64 0]) ∧ Hid (MS w1.heap.size w1 k bg E T gs1 w')) := fun W h => h.or [turnE a, turnE b] (in2 (by omega) (by omega)) (by simp; omega) HLP.out.e6
      have H7 : Hid (∀ W, MS w1.heap.size w1 k bg E T gs1 W → Calls Try.prog 14 #[.pointer (some ⟨bg, 0, none⟩), .int .u32 (a : Int), .int .u32 (b : Int), .int .u32 (b : Int)] W fun e w' => e = .returned (.tuple #[.int .u32 (f : Int), .int .i64 0]) ∧ Hid (MS w1.heap.size w1 k bg E T gs2 w')) := fun W h => h.if_ a b b i1a i1b i1b (by omega) HLP.out.e7
      have H8 : Hid (∀ W, MS w1.heap.size w1 k bg E T gs2 W → Calls Try.prog 11 #[.pointer (some ⟨bg, 0, none⟩), .slice none 0 0, .slice (some ⟨W.heap.size, 0, none⟩) 4 4] (W.alloc (.cells #[.int .u32 (f : Int), .int .u32 (b : Int), .int .u32 ((turnE r : Nat) : Int), .int .u32 (r : Int)] 25)) fun e w' => ∃ g, e = .returned (.tuple #[.slice (some ⟨g, 0, none⟩) 4 4, .int .i64 0]) ∧ Hid (∀ j, j < 4 → w'.cell? ⟨g, j, none⟩ = some (.bool (sayE [] gs2 ([f, b, turnE r, r].getD j 0)))) ∧ Hid (MSg w1.heap.size w1 k bg E T g gs2 w') ∧ Hid (Below W.heap.size W w')) := fun W h => h.eval none 0 0 [] .nil [f, b, turnE r, r] HLP.out.i2.1 (by omega) (by simp)
      have H9 : Hid (∀ W g, MSg w1.heap.size w1 k bg E T g gs2 W → Calls Try.prog 13 #[.pointer (some ⟨bg, 0, none⟩), .int .u32 (a : Int), .int .u32 (a : Int)] W fun e w' => e = .returned (.tuple #[.int .u32 (s : Int), .int .i64 0]) ∧ Hid (MS w1.heap.size w1 k bg E T gs3 w') ∧ Hid (w'.heap[g]? = W.heap[g]?) ∧ Hid (W.heap.size ≤ w'.heap.size)) := fun W g h => h.same_ a a HLP.out.i2.2 HLP.out.i2.2 (by omega) HLP.out.e9
      have H10 : Hid (∀ W, MS w1.heap.size w1 k bg E T gs3 W → Calls Try.prog 11 #[.pointer (some ⟨bg, 0, none⟩), .slice (some ⟨W.heap.size, 0, none⟩) 3 3, .slice (some ⟨W.heap.size + 1, 0, none⟩) 1 1] ((W.alloc (.cells #[.bool true, .bool true, .bool true] 4)).alloc (.cells #[.int .u32 (s : Int)] 25)) fun e w' => ∃ g, e = .returned (.tuple #[.slice (some ⟨g, 0, none⟩) 1 1, .int .i64 0]) ∧ Hid (w'.cell? ⟨g, 0, none⟩ = some (.bool true)) ∧ Hid (Below W.heap.size W w') ∧ Hid (Below w1.heap.size w1 w')) := fun W h => by
        have hb : Below W.heap.size W (W.alloc (.cells #[.bool true, .bool true, .bool true] 4)) := (Below.refl _ _).alloc (Nat.le_refl _) _
        have h2 := h.below hb
        have hh := h2.eval (some ⟨W.heap.size, 0, none⟩) 3 3 [true, true, true] (rdo_made W 4 [true, true, true]) [s] HLP.out.i3 (by omega) (by simp)
        have hs : (W.alloc (.cells #[.bool true, .bool true, .bool true] 4)).heap.size = W.heap.size + 1 := by simp
        rw [hs] at hh
        refine hh.mono ?_
        rintro e w' ⟨g, rfl, p, q, t⟩
        have p0 : w'.cell? ⟨g, 0, none⟩ = some (.bool (sayE [true, true, true] gs3 s)) := p.out 0 (by simp)
        rw [HLP.out.s9] at p0
        exact ⟨g, rfl, p0, hb.trans (t.out.mono (by omega)), q.out.ms.be⟩
      have HV : Hid (∀ w' : World, ∀ g : Nat, (∀ j, j < 4 → w'.cell? ⟨g, j, none⟩ = some (.bool (sayE [] gs2 ([f, b, turnE r, r].getD j 0)))) → ∃ u v : Bool, w'.cell? ⟨g, 0, none⟩ = some (.bool u) ∧ w'.cell? ⟨g, 1, none⟩ = some (.bool u) ∧ w'.cell? ⟨g, 2, none⟩ = some (.bool (!v)) ∧ w'.cell? ⟨g, 3, none⟩ = some (.bool v)) := fun w' g h => by
        refine ⟨sayE [] gs2 b, sayE [] gs2 r, ?_, h 1 (by omega), ?_, h 3 (by omega)⟩
        · have := h 0 (by omega)
          rw [this]
          exact congrArg (fun z => some (Value.bool z)) (HLP.out.s7 [])
        · have := h 2 (by omega)
          rw [this]
          exact congrArg (fun z => some (Value.bool z)) (HLP.out.s6 [])
      clear HLP ta tb in2 i0a i0b i1a i1b i1r l1 l2 l3
      have y0 := HM1.out.c0
      go_wp2_with fail
      refine (H1.out _ HM1.out).mono ?_
      clear y0 H1
      rintro e wb ⟨rfl, HM2⟩
      have y0 := HM2.out.c0
      clear HM1
      go_wp2_with fail
      refine (H2.out _ HM2.out).mono ?_
      clear y0 H2
      rintro e wc ⟨rfl, HM3⟩
      have y0 := HM3.out.c0
      clear HM2
      go_wp2_with fail
      refine (H3.out _ HM3.out).mono ?_
      clear y0 H3
      rintro e wd ⟨rfl, HM4⟩
      have y0 := HM4.out.c0
      clear HM3
      go_wp2_with fail
      refine (H4.out _ HM4.out).mono ?_
      clear y0 H4
      rintro e we ⟨rfl, HM5⟩
      have y0 := HM5.out.c0
      clear HM4
      go_wp2_with fail
      refine (H5.out _ HM5.out).mono ?_
      clear y0 H5
      rintro e wf ⟨rfl, HM6⟩
      have y0 := HM6.out.c0
      clear HM5
      go_wp2_with fail
      refine (H6.out _ HM6.out).mono ?_
      clear y0 H6
      rintro e wg ⟨rfl, HM7⟩
      have y0 := HM7.out.c0
      clear HM6
      go_wp2_with fail
      refine (H7.out _ HM7.out).mono ?_
      clear y0 H7
      rintro e wh ⟨rfl, HM8⟩
      have y0 := HM8.out.c0
      clear HM7
      go_wp2_with fail
      refine (H8.out _ HM8.out).mono ?_
      clear y0 H8
      rintro e wi ⟨g, rfl, HC, HM9, _⟩
      have y0 := HM9.out.ms.c0
      clear HM8
      go_wp2_with fail
      refine (H9.out _ _ HM9.out).mono ?_
      clear y0 H9
      rintro e wj ⟨rfl, HM10, HG, HZ⟩
      have y0 := HM10.out.c0
      have HC2 : Hid (∀ j, wj.cell? ⟨g, j, none⟩ = wi.cell? ⟨g, j, none⟩) := fun j => by have := HG.out; simp [World.cell?, this]
      have HGL : Hid (g < wj.heap.size) := by obtain ⟨_, _, _, _, _, q⟩ := HM9.out; exact Nat.lt_of_lt_of_le q HZ.out
      clear HM9
      go_wp2_with fail
      refine (H10.out _ HM10.out).mono ?_
      clear y0 H10
      rintro e wk ⟨g2, rfl, hd, HB, HE⟩
      obtain ⟨u, v, c0, c1, c2, c3⟩ := HV.out wk g fun j hj => by
        rw [HB.out.cell (p := ⟨g, j, none⟩) HGL.out, HC2.out j]; exact HC.out j hj
      have d0 := hd.out
      clear hd HM10 HC HC2 HGL HV HG HZ HB
      have HF : Hid (∀ q, Below w.heap.size w (wk.drewN q)) := fun q => below_drewN (HBW.out _ HE.out) q
      clear HE
      cases v
      all_goals
        go_upto_region 26 with (fail)
        go_quiet (fail)
        clear c0 c1 c2 c3 d0
        go_wp2_with fail
        go_ret
        exact ⟨by simp, HF.out _⟩
    have tj : decide (j < n) = true := decide_eq_true hlt
    have tj2 : decide ((j : Int) < (n : Int)) = true := decide_eq_true (by omega)
    obtain ⟨bx, o, Aj, cj, hA, hbx, x0, x1, hrd, hlm⟩ := (HXW.out _ HL.out).at_ j hlt
    rw [hA]
    have HRD := Lib.hid hrd
    by_cases h10 : 10 < (P j).length
    · have tk : decide (10 < (P j).length) = true := decide_eq_true h10
      have tk2 : decide (10 < (((P j).length : Nat) : Int)) = true := decide_eq_true (by omega)
      have HBX := HBW.out _ HL.out
      have HBA : Hid (Below w.heap.size w (wr.alloc (.cells #[.int .i64 (K j), .slice Aj (P j).length cj] 44))) := HBX.trans ((Below.refl _ _).alloc HBX.size _)
      clear hrd HRD HM HP HL
      generalize (P j).length = m at *
      generalize K j = kk at *
      go_upto_region 11 with (fail)
      obtain ⟨ba, hba⟩ : ∃ ba, ba = wr.heap.size := ⟨_, rfl⟩
      obtain ⟨wa, hwa⟩ : ∃ wa, wa = wr.alloc (.cells #[.int .i64 kk, .slice Aj m cj] 44) := ⟨_, rfl⟩
      have HA1 : Hid (wa.cell? ⟨ba, 1, none⟩ = some (.slice Aj m cj)) := by rw [hwa, hba, Lib.cell_of_heap (blk_new wr _)]; rfl
      rw [← hwa, ← hba]
      rw [← hwa] at HBA
      have a1 := HA1.out
      clear hwa hba x0 x1 HA1
      go_wp2_with fail
      go_ret
      exact ⟨rfl, HBA.out⟩
    have tk : decide (10 < (P j).length) = false := decide_eq_false h10
    have tk2 : decide (10 < (((P j).length : Nat) : Int)) = false := decide_eq_false (by omega)
    have HO := Lib.hid (okRun N hN K P j HP.out)
    have HRN : Hid (runS N K P (j + 1) = stepS (runS N K P j) (K j) (P j)) := rfl
    have HMA : Hid (MAt w1 bk (runS N K P j) (wr.alloc (.cells #[.int .i64 (K j), .slice Aj (P j).length cj] 44))) := HM.out.below ((Below.refl _ _).alloc (Nat.le_refl _) _)
    have HCA : Hid (∀ wa, wa = wr.alloc (.cells #[.int .i64 (K j), .slice Aj (P j).length cj] 44) → Calls Try.prog 19 #[.pointer (some ⟨bk, 0, none⟩), .agg #[.int .i64 (K j), .slice Aj (P j).length cj]] wa fun e w' => e = .returned (.bool true) ∧ Hid (MAt w1 bk (runS N K P (j + 1)) w')) := fun wa hwa => by
      have hM := HMA.out
      rw [← hwa] at hM
      have hb : Below wr.heap.size wr wa := by rw [hwa]; exact (Below.refl _ _).alloc (Nat.le_refl _) _
      exact (hM.do_ HO.out (by omega) (by omega) (by omega) (K j) Aj (P j).length cj (P j) ((HRD.out.below hb).more hb.size) (by omega)).mono fun e w' ⟨a, b⟩ => ⟨a, b⟩
    have HP2 : Hid (∀ i, i < j + 1 → (P i).length ≤ 10) := fun i hi => by
      by_cases h : i < j
      · exact HP.out i h
      · obtain rfl : i = j := by omega
        omega
    clear hrd HRD HM HP HL HMA HO HRN
    obtain ⟨m, hm⟩ : ∃ m, m = (P j).length := ⟨_, rfl⟩
    obtain ⟨kk, hkk⟩ : ∃ kk, kk = K j := ⟨_, rfl⟩
    rw [← hm] at x1 tk tk2 HCA
    rw [← hkk] at x0 HCA
    have hm10 : m ≤ 10 := by omega
    clear hm hkk hlm h10
    go_upto_region 11 with (fail)
    obtain ⟨ba, hba⟩ : ∃ ba, ba = wr.heap.size := ⟨_, rfl⟩
    obtain ⟨wa, hwa⟩ : ∃ wa, wa = wr.alloc (.cells #[.int .i64 kk, .slice Aj m cj] 44) := ⟨_, rfl⟩
    have HA1 : Hid (wa.cell? ⟨ba, 0, none⟩ = some (.int .i64 kk) ∧ wa.cell? ⟨ba, 1, none⟩ = some (.slice Aj m cj)) := by
      refine ⟨?_, ?_⟩
      all_goals (rw [hwa, hba, Lib.cell_of_heap (blk_new wr _)]; rfl)
    have HCW := Lib.hid (HCA.out wa hwa)
    rw [← hwa, ← hba]
    obtain ⟨a0, a1⟩ := HA1.out
    clear hwa hba x0 x1 HA1 HCA
    go_wp2_with fail
    refine HCW.out.mono ?_
    rintro e w3 ⟨rfl, HM3⟩
    clear HCW
    go_wp2_with fail
    go_roundw
    case rel => exact ⟨j + 1, by go_num, by omega, HP2, HM3⟩
    case measure => simp [intOf]; omega

set_option maxHeartbeats 800000 in
set_option maxRecDepth 100000 in
theorem lifted (os : Os) (started : os.Started) (H : Type) (enc : TypeId × Value → H) :
    ReturnsInHanded {} Try.checked os 7 .any (Rows.gateLawsSpec.pre6 enc Try.prog Try.f7 Rows.gateLawsRow.domain false) (Rows.gateLawsSpec.post enc Try.prog Try.f7 false true false false) := by
  refine returnsInHanded_of_change (C := Try.checked) own_knob started (by kernel_rfl) Try.func7
    (ChangeSpec.witness6 (enc := enc) (C := Try.checked) false ⟨#[], #[.int .i64 0, .slice none 0 0, .agg #[.int .i64 0, .int .i64 0]], []⟩ 8 (by kernel_rfl) (by kernel_rfl) (by kernel_rfl) (by kernel_rfl)) ?_
  intro W base args ds gs before hval0 hW _ _
  have hval : ∀ (j : Nat) t v, Try.f7.params[j]? = some t → args[j]? = some v → Value.okWide Try.prog W .any base t v := hval0
  have hW' := hW
  obtain ⟨p, q, hA0, hV, rfl, _, _⟩ := hW
  have hA : DataW.TrodAll enc Try.prog W 0 (fun _ => true) true Try.f7.params.toList args.toList ds p := hA0
  rw [Try.params7] at hA hval
  obtain ⟨v0, v1, v2, d0, d1, d2, p0, p1, p2, rfl, rfl, rfl, h0, h1, h2⟩ := trodAll_three hA
  obtain ⟨rfl, rfl⟩ := trodVars_none hV
  obtain ⟨a0, rfl, rfl, rfl, w0⟩ := open_int Try.underlying3 (hval 0 3 v0 rfl rfl) h0
  obtain ⟨A1, n1, c1, K1, P1, rfl, hR1, _⟩ := open_acts (hval 1 40 v1 rfl rfl) h1
  obtain ⟨x2, y2, rfl⟩ := open_pair (hval 2 54 v2 rfl rfl) h2
  clear hA0 hval0
  simp only [List.append_nil, List.nil_append] at hW'
  have hlt1 : ∀ y ∈ p1, y.block < W.heap.size := fun y hy => by simpa using hW'.lt y (by simp [hy])
  have hlt2 : ∀ y ∈ p2, y.block < W.heap.size := fun y hy => by simpa using hW'.lt y (by simp [hy])
  refine (walk a0 A1 n1 c1 K1 P1 x2 y2 W hR1).mono fun e W' ⟨he, hB⟩ => ?_
  subst he
  exact ⟨_, rfl, _, _, _, [], _, [], hW', trodAll_mk1 (shut_bool Try.underlying4 true), trodAll_mk3 (shut_int Try.underlying3 w0) (Below.trod laid_out (by kernel_rfl) (of_decide_eq_true (by kernel_rfl)) h1 hB hlt1) (Below.trod laid_out (by kernel_rfl) (of_decide_eq_true (by kernel_rfl)) h2 hB hlt2), rfl, hB.frame _, fun h => by cases h⟩

theorem proved : Rows.GateLawsSaid :=
  OpenClaim.holds_of_wide 7 Try.f7 rfl rfl rfl rfl rfl rfl rfl ⟨rfl, rfl, rfl, rfl, rfl⟩ rfl rfl rfl rfl rfl (by kernel_rfl) Try.func7 (by kernel_rfl)
    (of_decide_eq_true (by kernel_rfl)) (by unfold Func.isWrapper; first | (rw [if_pos (by decide +kernel)]; kernel_rfl) | (rw [if_neg (by decide +kernel)]; exact ⟨rfl, rfl⟩))
    (fun os started H enc _ => lifted os started H enc)
end Go.Proofs.Ytkdjbjclijbojaa.GLaws
namespace Go.Proofs.Ytkdjbjclijbojaa
theorem gateLaws_holds : Rows.GateLawsSaid := GLaws.proved
#print axioms gateLaws_holds
end Go.Proofs.Ytkdjbjclijbojaa
