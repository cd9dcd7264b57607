/- The maker's sums, in memory: the contracts of where, sum, difference. -/
import Derived.Test.YtelpoocgmflofaaVecB
namespace Go.Proofs.Ytelpoocgmflofaa
open Go.RowKit GatM VecM

section
variable {B : Nat} {w0 w : World} {c : GrC} {gs : Gs} {b : Nat}
set_option maxHeartbeats 1600000 in
set_option maxRecDepth 100000 in
theorem vwhere_any (h : LvG B w0 w c gs) (hm : VMk w c b) {A : Option Addr} {n cn : Nat} {l : List Nat} (hl : VcAt w c A n l) (hin : AllIn gs l) (x : Nat) (hx : x / 2 < gs.length) (hn : gs.length ≤ 70000) (hnn : n ≤ 100) :
    Calls Try.prog 67 #[.pointer (some ⟨b, 0, none⟩), .int .u32 (x : Int), .slice A n cn] w (VecTo B w0 w c gs n (2 * n) (x < 2 ∧ Cst l) fun vals => if sayE vals gs x then valE vals gs l else 0) := by
  have hpos := hl.pos
  have hll := hl.len
  obtain ⟨C, hC1, hC2, hmk⟩ := make_vec n (by omega)
  have hmk0 := hmk w
  have H0 : Hid (OutAt B w0 w c w.heap.size n [] (w.alloc (.cells C 25)) c gs ∧ ResK gs gs [] 0 (2 * 0) (x < 2 ∧ Cst l) (fun vals i => sayE vals gs x && bitE vals gs l i)) := ⟨OutAt.start h (by omega) hC1 hC2, ResK.nil h.wf⟩
  have HM := Lib.hid hm
  have HL := Lib.hid hl
  have HI := Lib.hid hin
  have HN := Lib.hid hn
  have HX := Lib.hid hx
  have HB := Lib.hid h.hB
  clear hC1 hC2 h hm hl hin hn hmk hx
  go_enter Try.func67, Try.ntmps67
  go_wp2_with fail
  go_loopw [15] (fun i wr => ∃ (k : Nat) (o : List Nat) (ck : GrC) (gk : Gs), i = .int .i64 (k : Int) ∧ k ≤ n ∧ Hid (OutAt B w0 w c w.heap.size n o wr ck gk ∧ ResK gs gk o k (2 * k) (x < 2 ∧ Cst l) (fun vals i => sayE vals gs x && bitE vals gs l i))) (fun i _ => n - (intOf i).toNat)
  case atStart => exact ⟨0, [], c, gs, rfl, Nat.zero_le _, H0⟩
  case round =>
    obtain ⟨k, o, ck, gk, rfl, hk, HO⟩ := hrel
    clear H0
    by_cases hlt : k < n
    · have tk : decide ((k : Int) < (n : Int)) = true := decide_eq_true (by omega)
      have tk2 : decide (k < n) = true := decide_eq_true hlt
      have tk3 : decide ((n : Int) ≤ (k : Int)) = false := decide_eq_false (by omega)
      obtain ⟨ho1, ho2⟩ := HO.out
      obtain ⟨ba, oa, rfl, _, _, hc⟩ := (HL.out.to ho1.tr).at_
      have hy := hc k hlt
      have hin : l.getD k 0 / 2 < gs.length := HI.out _ (nmem.2 ⟨k, by omega, rfl⟩)
      have HC := Lib.hid (vand_two ho1.tr.lv (HM.out.to ho1.tr) x (l.getD k 0) (ho2.up HX.out) (ho2.up hin) (by have := HN.out; have := ho2.len; omega))
      have HS : Hid (∀ w3 r g3 c3, Res gk g3 r 2 (x < 2 ∧ l.getD k 0 < 2) (fun vals => sayE vals gk x && sayE vals gk (l.getD k 0)) → LvTo B w0 wr w3 ck c3 g3 → w3.cell? ⟨w.heap.size, k, none⟩ = some (.int .u32 0) ∧ w3.frozen? ⟨w.heap.size, k, none⟩ = false ∧ Hid (OutAt B w0 w c w.heap.size n (o ++ [r]) (w3.setCell ⟨w.heap.size, k, none⟩ (.int .u32 (r : Int))) c3 g3 ∧ ResK gs g3 (o ++ [r]) (k + 1) (2 * (k + 1)) (x < 2 ∧ Cst l) (fun vals i => sayE vals gs x && bitE vals gs l i))) := fun w3 r g3 c3 h1 h2 => by
        have := ho1.put HB.out h2 (by rw [ho2.ll]; exact hlt) r
        rw [ho2.ll] at this
        refine ⟨this.1, this.2.1, this.2.2, ho2.snoc h1 (fun hc => ⟨hc.1, hc.2 _ (nmem.2 ⟨k, by omega, rfl⟩)⟩) fun vals => ?_⟩
        show (sayE vals gk x && sayE vals gk (l.getD k 0)) = (sayE vals gs x && sayE vals gs (atL l k))
        rw [atL_lt (by omega), say_ex ho2.ex hin, say_ex ho2.ex HX.out]
      clear hc ho1 ho2 hin HO
      generalize l.getD k 0 = y at *
      go_wp2_with fail
      refine HC.out.mono ?_
      rintro e w3 ⟨r, g3, c3, rfl, h1, h2⟩
      obtain ⟨d1, d2, HN2⟩ := HS.out w3 r g3 c3 h1 h2
      clear h1 h2 HS HC hy
      go_wp2_with fail
      go_roundw
      case rel => exact ⟨k + 1, o ++ [r], c3, g3, by go_num, by omega, HN2⟩
      case measure => simp [intOf]; omega
    · have tk : decide ((k : Int) < (n : Int)) = false := decide_eq_false (by omega)
      have tk2 : decide (k < n) = false := decide_eq_false hlt
      obtain rfl : k = n := by omega
      have HE : Hid (VecTo B w0 w c gs k (2 * k) (x < 2 ∧ Cst l) (fun vals => if sayE vals gs x then valE vals gs l else 0) (.returned (.slice (some ⟨w.heap.size, 0, none⟩) k k)) wr) := HO.out.1.fin HO.out.2 hpos (Nat.le_refl _) (fun q => q) fun vals => by
        rw [nB_where, valE_at (by omega)]
      clear HO
      go_wp2_with fail
      go_ret
      exact HE.out
theorem atL_last (l : List Nat) {m : Nat} (h : l.length ≤ m) : atL l (m - 1) = atL l (l.length - 1) := by
  unfold atL
  congr 1
  omega
/-- What the sum has done so far: k edges, and a carry. -/
structure SumK (gs gk : Gs) (o : List Nat) (e k : Nat) (C : Prop) (la lb : List Nat) : Prop where
  rs : ResK gs gk o k (16 * k) C fun vals => sumF (bitE vals gs la) (bitE vals gs lb)
  lt : e / 2 < gk.length
  cst : C → e < 2
  say : ∀ vals, sayE vals gk e = carF (bitE vals gs la) (bitE vals gs lb) (k - 1)
/-- Behind the carry. -/
structure SumM (gs gk : Gs) (o : List Nat) (e k : Nat) (C : Prop) (la lb : List Nat) : Prop where
  rs : ResK gs gk o k (16 * k + 8) C fun vals => sumF (bitE vals gs la) (bitE vals gs lb)
  lt : e / 2 < gk.length
  cst : C → e < 2
  say : ∀ vals, sayE vals gk e = carF (bitE vals gs la) (bitE vals gs lb) k
theorem SumM.next {gk g2 : Gs} {o : List Nat} {e k r : Nat} {C C' : Prop} {la lb : List Nat} {f : List Bool → Bool} (h : SumM gs gk o e k C la lb) (hr : Res gk g2 r 8 C' f) (hc : C → C') (hf : ∀ vals, f vals = sumF (bitE vals gs la) (bitE vals gs lb) k) : SumK gs g2 (o ++ [r]) e (k + 1) C la lb :=
  ⟨h.rs.snoc hr hc hf, Nat.lt_of_lt_of_le h.lt hr.ex.len, h.cst, fun vals => by rw [say_ex hr.ex h.lt, h.say]; rfl⟩
theorem SumK.mid {gk g2 : Gs} {o : List Nat} {e k r : Nat} {C C' : Prop} {la lb : List Nat} {f : List Bool → Bool} (h : SumK gs gk o e k C la lb) (hr : Res gk g2 r 8 C' f) (hc : C → C') (hf : ∀ vals, f vals = carF (bitE vals gs la) (bitE vals gs lb) k) : SumM gs g2 o r k C la lb :=
  ⟨h.rs.move hr.wf hr.ex hr.len fun c => (hr.cst (hc c)).1, hr.lt, fun c => (hr.cst (hc c)).2, fun vals => (hr.say vals).trans (hf vals)⟩
set_option maxHeartbeats 3200000 in
set_option maxRecDepth 100000 in
theorem vsum_any (h : LvG B w0 w c gs) (hm : VMk w c b) {A D : Option Addr} {n m cn cm : Nat} {la lb : List Nat} (hla : VcAt w c A n la) (hlb : VcAt w c D m lb) (hia : AllIn gs la) (hib : AllIn gs lb) (hn : gs.length ≤ 60000) (hnn : n ≤ 100) (hmm : m ≤ 100) :
    Calls Try.prog 35 #[.pointer (some ⟨b, 0, none⟩), .slice A n cn, .slice D m cm] w (VecTo B w0 w c gs (max n m + 1) (16 * (max n m + 1)) (Cst la ∧ Cst lb) fun vals => valE vals gs la + valE vals gs lb) := by
  have hpa := hla.pos
  have hpb := hlb.pos
  have hlna := hla.len
  have hlnb := hlb.len
  obtain ⟨M, hM⟩ : ∃ M, M = max n m := ⟨_, rfl⟩
  have hMM : max (n : Int) (m : Int) = (M : Int) := by omega
  rw [← hM]
  have hM1 : 1 ≤ M ∧ M ≤ 100 ∧ n ≤ M ∧ m ≤ M := by omega
  obtain ⟨C, hC1, hC2, hmk⟩ := make_vec (M + 1) (by omega)
  have hmk0 : (Instr.makeSlice 27 (.int .i64 ((M : Int) + 1)) (.int .i64 ((M : Int) + 1))).run Try.prog w = .ok (.slice (some ⟨w.heap.size, 0, none⟩) (M + 1) (M + 1)) (w.alloc (.cells C 25)) := hmk w
  have H0 : Hid (OutAt B w0 w c w.heap.size (M + 1) [] (w.alloc (.cells C 25)) c gs ∧ SumK gs gs [] 0 0 (Cst la ∧ Cst lb) la lb) := ⟨OutAt.start h (by omega) hC1 hC2, ResK.nil h.wf, h.wf.pos, fun _ => Nat.zero_lt_two, fun vals => say_false h.wf⟩
  have HM := Lib.hid hm
  have HA := Lib.hid hla
  have HD := Lib.hid hlb
  have HIA : Hid (∀ i, atL la i / 2 < gs.length ∧ (Cst la → atL la i < 2)) := fun i => ⟨hia _ (atL_mem (by omega) i), fun q => q.at_ (by omega) i⟩
  have HIB : Hid (∀ i, atL lb i / 2 < gs.length ∧ (Cst lb → atL lb i < 2)) := fun i => ⟨hib _ (atL_mem (by omega) i), fun q => q.at_ (by omega) i⟩
  have HN := Lib.hid hn
  have HB := Lib.hid h.hB
  have hMH := Lib.hid hM
  clear hC1 hC2 h hm hla hlb hia hib hn hmk hM
  go_enter Try.func35, Try.ntmps35
  go_wp2_with fail
  go_loopw [8, 19] (fun v i wr => ∃ (k e : Nat) (o : List Nat) (ck : GrC) (gk : Gs), v = .int .u32 (e : Int) ∧ i = .int .i64 (k : Int) ∧ k ≤ M + 1 ∧ Hid (OutAt B w0 w c w.heap.size (M + 1) o wr ck gk ∧ SumK gs gk o e k (Cst la ∧ Cst lb) la lb)) (fun _ i _ => M + 1 - (intOf i).toNat)
  case atStart => exact ⟨0, 0, [], c, gs, rfl, rfl, Nat.zero_le _, H0⟩
  case round =>
    obtain ⟨k, e, o, ck, gk, rfl, rfl, hk, HO⟩ := hrel
    clear H0
    by_cases hlt : k < M + 1
    · have tk : decide ((k : Int) < (M : Int) + 1) = true := decide_eq_true (by omega)
      have tk1 : decide ((k : Int) < ((M + 1 : Nat) : Int)) = true := decide_eq_true (by omega)
      have tk2 : decide (k < M + 1) = true := decide_eq_true hlt
      go_upto_if 23 with (fail)
      go_cut [8] (fun v wx => ∃ (e2 : Nat) (ck2 : GrC) (gk2 : Gs), v = .int .u32 (e2 : Int) ∧ Hid (OutAt B w0 w c w.heap.size (M + 1) o wx ck2 gk2 ∧ SumM gs gk2 o e2 k (Cst la ∧ Cst lb) la lb))
      case first =>
        by_cases k0 : ¬ 0 < k
        · have t0 : decide ((0 : Int) < (k : Int)) = false := decide_eq_false (by omega)
          have t1 : decide (0 < k) = false := decide_eq_false (by omega)
          have HE : Hid (OutAt B w0 w c w.heap.size (M + 1) o wr ck gk ∧ SumM gs gk o e k (Cst la ∧ Cst lb) la lb) := ⟨HO.out.1, ⟨HO.out.2.rs.wf, HO.out.2.rs.ex, HO.out.2.rs.inn, by have := HO.out.2.rs.len; omega, HO.out.2.rs.ll, HO.out.2.rs.cst, HO.out.2.rs.say⟩, HO.out.2.lt, HO.out.2.cst, fun vals => by rw [HO.out.2.say, show k - 1 = k by omega]⟩
          clear HO
          go_wp2_with fail
          go_meet
          exact ⟨e, ck, gk, rfl, HE⟩
        · have t0 : decide ((0 : Int) < (k : Int)) = true := decide_eq_true (by omega)
          have t1 : decide (0 < k) = true := decide_eq_true (by omega)
          obtain ⟨ho1, ho2⟩ := HO.out
          have ha1 := vat_any cn (HA.out.to ho1.tr) (by omega) (k - 1)
          have hb1 := vat_any cm (HD.out.to ho1.tr) (by omega) (k - 1)
          rw [show ((k - 1 : Nat) : Int) = (k : Int) - 1 by omega] at ha1 hb1
          have HA1 := Lib.hid ha1
          have HB1 := Lib.hid hb1
          have HC := Lib.hid (vmost_any ho1.tr.lv (HM.out.to ho1.tr) (atL la (k - 1)) (atL lb (k - 1)) e (ho2.rs.up (HIA.out _).1) (ho2.rs.up (HIB.out _).1) ho2.lt (by have := HN.out; have := ho2.rs.len; omega))
          have HS : Hid (∀ w3 r g3 c3, Res gk g3 r 8 (atL la (k - 1) < 2 ∧ atL lb (k - 1) < 2 ∧ e < 2) (fun vals => maj (sayE vals gk (atL la (k - 1))) (sayE vals gk (atL lb (k - 1))) (sayE vals gk e)) → LvTo B w0 wr w3 ck c3 g3 → Hid (OutAt B w0 w c w.heap.size (M + 1) o w3 c3 g3 ∧ SumM gs g3 o r k (Cst la ∧ Cst lb) la lb)) := fun w3 r g3 c3 h1 h2 =>
            ⟨ho1.step h2, ho2.mid h1 (fun q => ⟨(HIA.out _).2 q.1, (HIB.out _).2 q.2, ho2.cst q⟩) fun vals => by
              rw [say_ex ho2.rs.ex (HIA.out _).1, say_ex ho2.rs.ex (HIB.out _).1, ho2.say]
              obtain ⟨j, rfl⟩ : ∃ j, k = j + 1 := ⟨k - 1, by omega⟩
              rfl⟩
          clear ho1 ho2 HO ha1 hb1
          replace k0 : 0 < k := by omega
          generalize atL la (k - 1) = x at *
          generalize atL lb (k - 1) = y at *
          go_wp2_with fail
          refine HA1.out.mono ?_
          rintro e1 w' ⟨rfl, rfl⟩
          go_wp2_with fail
          refine HB1.out.mono ?_
          rintro e1 w' ⟨rfl, rfl⟩
          go_wp2_with fail
          refine HC.out.mono ?_
          rintro e1 w3 ⟨r, g3, c3, rfl, h1, h2⟩
          have HE := HS.out w3 r g3 c3 h1 h2
          clear h1 h2 HS HC HA1 HB1
          go_wp2_with fail
          go_meet
          exact ⟨r, c3, g3, rfl, HE⟩
      case rest =>
      clear HO
      obtain ⟨e, ck, gk, rfl, HO⟩ := hcut
      obtain ⟨ho1, ho2⟩ := HO.out
      have HA1 := Lib.hid (vat_any cn (HA.out.to ho1.tr) (by omega) k)
      have HB1 := Lib.hid (vat_any cm (HD.out.to ho1.tr) (by omega) k)
      have HC := Lib.hid (vodd_any ho1.tr.lv (HM.out.to ho1.tr) (atL la k) (atL lb k) e (ho2.rs.up (HIA.out _).1) (ho2.rs.up (HIB.out _).1) ho2.lt (by have := HN.out; have := ho2.rs.len; omega))
      have HS : Hid (∀ w3 r g3 c3, Res gk g3 r 8 (atL la k < 2 ∧ atL lb k < 2 ∧ e < 2) (fun vals => odd3 (sayE vals gk (atL la k)) (sayE vals gk (atL lb k)) (sayE vals gk e)) → LvTo B w0 wc w3 ck c3 g3 → w3.cell? ⟨w.heap.size, k, none⟩ = some (.int .u32 0) ∧ w3.frozen? ⟨w.heap.size, k, none⟩ = false ∧ Hid (OutAt B w0 w c w.heap.size (M + 1) (o ++ [r]) (w3.setCell ⟨w.heap.size, k, none⟩ (.int .u32 (r : Int))) c3 g3 ∧ SumK gs g3 (o ++ [r]) e (k + 1) (Cst la ∧ Cst lb) la lb)) := fun w3 r g3 c3 h1 h2 => by
        have := ho1.put HB.out h2 (by rw [ho2.rs.ll]; exact hlt) r
        rw [ho2.rs.ll] at this
        refine ⟨this.1, this.2.1, this.2.2, ho2.next h1 (fun q => ⟨(HIA.out _).2 q.1, (HIB.out _).2 q.2, ho2.cst q⟩) fun vals => ?_⟩
        rw [say_ex ho2.rs.ex (HIA.out _).1, say_ex ho2.rs.ex (HIB.out _).1, ho2.say]
        rfl
      clear ho1 ho2 HO
      generalize atL la k = x at *
      generalize atL lb k = y at *
      have tk3 : decide ((M : Int) + 1 ≤ (k : Int)) = false := decide_eq_false (by omega)
      have tk4 : decide (M + 1 ≤ k) = false := decide_eq_false (by omega)
      go_wp2_with fail
      refine HA1.out.mono ?_
      rintro e1 w' ⟨rfl, rfl⟩
      go_wp2_with fail
      refine HB1.out.mono ?_
      rintro e1 w' ⟨rfl, rfl⟩
      go_wp2_with fail
      refine HC.out.mono ?_
      rintro e1 w3 ⟨r, g3, c3, rfl, h1, h2⟩
      obtain ⟨d1, d2, HN2⟩ := HS.out w3 r g3 c3 h1 h2
      clear h1 h2 HS HC HA1 HB1
      go_wp2_with fail
      go_roundw
      case rel => exact ⟨k + 1, e, o ++ [r], c3, g3, rfl, by go_num, by omega, HN2⟩
      case measure => simp [intOf]; omega
    · have tk : decide ((k : Int) < (M : Int) + 1) = false := decide_eq_false (by omega)
      have tk2 : decide (k < M + 1) = false := decide_eq_false hlt
      obtain rfl : k = M + 1 := by omega
      have HE : Hid (VecTo B w0 w c gs (M + 1) (16 * (M + 1)) (Cst la ∧ Cst lb) (fun vals => valE vals gs la + valE vals gs lb) (.returned (.slice (some ⟨w.heap.size, 0, none⟩) (M + 1) (M + 1))) wr) := HO.out.1.fin HO.out.2.rs (by omega) (Nat.le_refl _) (fun q => q) fun vals => by
        have ha : bitE vals gs la M = bitE vals gs la (M - 1) := by unfold bitE; rw [atL_ge (show la.length ≤ M by omega), ← atL_last la (show la.length ≤ M by omega)]
        have hb : bitE vals gs lb M = bitE vals gs lb (M - 1) := by unfold bitE; rw [atL_ge (show lb.length ≤ M by omega), ← atL_last lb (show lb.length ≤ M by omega)]
        rw [sum_val (by omega) ha hb, valE_at (by omega), valE_at (by omega)]
      clear HO
      go_wp2_with fail
      go_ret
      exact HE.out
end
end Go.Proofs.Ytelpoocgmflofaa
