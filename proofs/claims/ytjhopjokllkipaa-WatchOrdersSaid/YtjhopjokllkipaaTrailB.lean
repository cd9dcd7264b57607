/- The contract of a trail's Back. -/
import Derived.Test.YtjhopjokllkipaaTrailN
import Derived.Test.YtjhopjokllkipaaRevC
namespace Go.Proofs.Ytjhopjokllkipaa
open Go.RowKit LitM TrailM

/-- What Back to level k takes away: the last one first. -/
def gone (L : List Ent) (k : Nat) : List Int := ((L.drop (upTo L k)).map Ent.l).reverse
theorem gone_len (L : List Ent) (k : Nat) : (gone L k).length = L.length - upTo L k := by simp [gone]
theorem rev_getD (xs : List Int) {m : Nat} (h : m < xs.length) : xs.reverse.getD m 0 = xs.getD (xs.length - 1 - m) 0 := by
  simp only [List.getD]
  rw [List.getElem?_reverse h]
theorem gone_at (L : List Ent) (k m : Nat) (h : m < L.length - upTo L k) : (gone L k).getD m 0 = litE L (L.length - 1 - m) := by
  unfold gone litE
  rw [List.getD, List.getElem?_reverse (by simp; omega), List.getD]
  simp only [List.length_map, List.length_drop, List.getElem?_map, List.getElem?_drop]
  rw [show upTo L k + (L.length - upTo L k - 1 - m) = L.length - 1 - m from by omega]

section
variable {b n d : Nat} {F : Nat → Prop} {L : List Ent}
set_option maxHeartbeats 1600000 in
theorem back_no (w : World) (h : TrailAt w b F n d L) (v : Int) (hv : v < 0 ∨ (d : Int) < v) :
    Calls Try.prog 43 #[.pointer (some ⟨b, 0, none⟩), .int .i64 v] w fun e w' => e = .returned (.tuple #[.slice none 0 0, .int .i64 41]) ∧ w = w' := by
  obtain ⟨gm, cm, ao, co, az, cs, hQ, hO, rfl⟩ := h
  have HD := Lib.hid (tdepth_nat w hQ)
  clear hQ hO
  by_cases h0 : v < 0
  · have t0 : decide (v < 0) = true := decide_eq_true h0
    clear hv
    go_enter Try.func43, Try.ntmps43
    go_wp2_with fail
    go_ret2
    exact ⟨rfl, rfl⟩
  · have t0 : decide (v < 0) = false := decide_eq_false h0
    have t1 : decide ((d : Int) < v) = true := decide_eq_true (by omega)
    clear hv
    go_enter Try.func43, Try.ntmps43
    go_wp2_with fail
    refine HD.out.mono ?_
    rintro e w' ⟨rfl, rfl⟩
    go_wp2_with fail
    go_ret2
    exact ⟨rfl, rfl⟩
set_option maxHeartbeats 1600000 in
theorem back_same (w : World) (h : TrailAt w b F n d L) :
    Calls Try.prog 43 #[.pointer (some ⟨b, 0, none⟩), .int .i64 (d : Int)] w fun e w' => e = .returned (.tuple #[.slice none 0 0, .int .i64 0]) ∧ w = w' := by
  obtain ⟨gm, cm, ao, co, az, cs, hQ, hO, rfl⟩ := h
  have HD := Lib.hid (tdepth_nat w hQ)
  clear hQ hO
  have t0 : decide ((d : Int) < 0) = false := decide_eq_false (by omega)
  have t1 : decide ((d : Int) < (d : Int)) = false := decide_eq_false (by omega)
  have t2 : ((d : Int) == (d : Int)) = true := by simp
  go_enter Try.func43, Try.ntmps43
  go_wp2_with fail
  refine HD.out.mono ?_
  rintro e w' ⟨rfl, rfl⟩
  go_wp2_with fail
  refine HD.out.mono ?_
  rintro e w' ⟨rfl, rfl⟩
  go_wp2_with fail
  go_ret2
  exact ⟨rfl, rfl⟩

/-- The loop's relation: m marks are undone. -/
def Undo (w : World) (b gm cm n : Nat) (ao : Option Addr) (co : Nat) (az : Option Addr) (cs d : Nat) (L : List Ent) (k g c : Nat) (v : Value) (wr : World) : Prop :=
  ∃ m : Nat, v = .int .i64 (m : Int) ∧ m ≤ L.length - upTo L k ∧ T3 wr b gm cm n ao L.length co az d cs (mkC (L.take (L.length - m))) (orC L) (stC L) ∧
    RowV 27 1 wr g (L.length - upTo L k) c (litC fun j => (gone L k).getD j 0) ∧ ¬ FootT b gm ao az g ∧ w.heap.size ≤ g ∧ Kf (FootT b gm ao az) w wr
/-- What Back leaves that takes something away. -/
def BackPost (F : Nat → Prop) (b n k : Nat) (L : List Ent) (w : World) (e : Ending) (w' : World) : Prop :=
  ∃ g c, e = .returned (.tuple #[.slice (some ⟨g, 0, none⟩) (L.length - upTo L k) c, .int .i64 0]) ∧ RowV 27 1 w' g (L.length - upTo L k) c (litC fun j => (gone L k).getD j 0) ∧ w.heap.size ≤ g ∧
    TrailAt w' b F n k (L.take (upTo L k)) ∧ Kf F w w'
theorem undo_step {m : Nat} (hm : m < L.length) {n d : Nat} (hO : Pre n d L) : ∃ (q : Nat) (x : Ent), 1 ≤ q ∧ q ≤ n ∧ x.l = litE L (L.length - 1 - m) ∧ -2147483648 ≤ x.l ∧ x.l ≤ 2147483647 ∧ varZ x.l = (q : Int) ∧ findE (L.take (L.length - (m + 1))) (varZ x.l) = none ∧ L.take (L.length - m) = L.take (L.length - (m + 1)) ++ [x] := by
  have hi : L.length - (m + 1) < L.length := by omega
  have ht : L.take (L.length - m) = L.take (L.length - (m + 1)) ++ [L[L.length - (m + 1)]] := by
    rw [← List.take_succ_eq_append_getElem hi]; congr 1; omega
  have hp := hO.take (L.length - m)
  rw [ht] at hp
  have hx := hO.one L[L.length - (m + 1)] (List.getElem_mem hi)
  have h1 := varZ_ge hx.1
  have h2 := (one_iff _).1 hx.1
  refine ⟨(varZ L[L.length - (m + 1)].l).toNat, L[L.length - (m + 1)], by omega, by omega, ?_, by omega, by omega, by omega, hp.last, ht⟩
  rw [litE_at _ (by omega)]
  congr 2
  omega

set_option maxHeartbeats 6400000 in
set_option maxRecDepth 100000 in
theorem back_yes (w : World) (h : TrailAt w b F n d L) (hn : n ≤ 100000) (k : Nat) (hk : k < d) :
    Calls Try.prog 43 #[.pointer (some ⟨b, 0, none⟩), .int .i64 (k : Int)] w (BackPost F b n k L w) := by
  obtain ⟨gm, cm, ao, co, az, cs, hQ, hO, rfl⟩ := h
  have HD := Lib.hid (tdepth_nat w hQ)
  have hup := hO.upTo_lt hk
  have hl := hO.len
  obtain ⟨gs, rfl, hrs⟩ := hQ.sts.row (by omega)
  obtain ⟨go, rfl, hro⟩ := hQ.ord.row (by omega)
  have t0 : decide ((k : Int) < 0) = false := decide_eq_false (by omega)
  have t1 : decide ((d : Int) < (k : Int)) = false := decide_eq_false (by omega)
  have t2 : ((k : Int) == (d : Int)) = false := by rw [beq_eq_false_iff_ne]; omega
  have t3 : (k == d) = false := by rw [beq_eq_false_iff_ne]; omega
  have c1 := hQ.h1
  have c2 := hQ.h2
  have ck : w.cell? ⟨gs, k, none⟩ = some (.int .i64 (upTo L k)) := hrs.cell (show k < d * 1 by omega)
  have hcs := hrs.bd
  obtain ⟨hcs1, hcs2⟩ := hcs
  have hco := hro.bd
  obtain ⟨hco1, hco2⟩ := hco
  have hrd : Rd .i32 w w.heap.size (some ⟨go, upTo L k, none⟩) (L.length - upTo L k) ((L.drop (upTo L k)).map Ent.l) := by
    refine ⟨by simp, fun _ => ⟨go, upTo L k, rfl, hro.lt, fun j hj => ?_⟩⟩
    have := hro.cell (show upTo L k + j < L.length * 1 by omega)
    rw [this]
    unfold orC litE
    rw [List.getD, List.getD, List.getElem?_map, List.getElem?_map, List.getElem?_drop]
  have HC := Lib.hid (clone_lit w go (upTo L k) (L.length - upTo L k) (co - upTo L k) w.heap.size _ hrd (Nat.le_refl _) (by omega) (by omega))
  have HQ := Lib.hid hQ
  have HO := Lib.hid hO
  clear hQ hO hrd hrs hro
  go_enter Try.func43, Try.ntmps43
  go_wp2_with fail
  refine HD.out.mono ?_
  rintro e w' ⟨rfl, rfl⟩
  go_wp2_with fail
  refine HD.out.mono ?_
  rintro e w' ⟨rfl, rfl⟩
  go_wp2_with fail
  refine HC.out.mono ?_
  rintro e w1 ⟨g, c, rfl, hr, hg, hb⟩
  have hq1 := HQ.out.kept (F := fun _ => False) (Kf.of_below hb) (fun _ _ h => h)
  have HQ1 := Lib.hid hq1
  have HK1 : Hid (Kf (FootT b gm (some ⟨go, 0, none⟩) (some ⟨gs, 0, none⟩)) w w1) := Kf.of_below hb
  have HG := Lib.hid hg
  have hcg := hr.bd
  obtain ⟨hcg1, hcg2⟩ := hcg
  have HRV := Lib.hid (reverse_lit w1 g (L.length - upTo L k) c (fun j => ((L.drop (upTo L k)).map Ent.l).getD j 0) hr (by omega))
  clear hr hg hb hq1 HC HD c1 c2 ck
  go_wp2_with fail
  refine HRV.out.mono ?_
  rintro e w2 ⟨rfl, hr, hk2⟩
  have hrg : RowV 27 1 w2 g (L.length - upTo L k) c (litC fun j => (gone L k).getD j 0) := hr.congr fun j hj => by
    show Value.int .i32 ((gone L k).getD j 0) = Value.int .i32 (((L.drop (upTo L k)).map Ent.l).getD (L.length - upTo L k - 1 - j) 0)
    unfold gone
    rw [rev_getD _ (by simp; omega)]
    simp
  have hgf : ¬ FootT b gm (some ⟨go, 0, none⟩) (some ⟨gs, 0, none⟩) g := fun hf => by
    have := HQ.out.foot g hf
    have := HG.out
    omega
  have hq2 := HQ1.out.kept hk2 (fun x hx e => hgf (e ▸ hx))
  have HU : Hid (Undo w b gm cm n (some ⟨go, 0, none⟩) co (some ⟨gs, 0, none⟩) cs d L k g c (.int .i64 0) w2) := by
    refine ⟨0, rfl, by omega, hq2.congr (fun j _ => ?_) (fun _ _ => rfl) (fun _ _ => rfl), hrg, hgf, HG.out, HK1.out.trans hk2 (fun x e => .inr ?_)⟩
    · rw [Nat.sub_zero, List.take_length]
    · subst e; exact HG.out
  clear hr hk2 hrg hgf hq2 HQ1 HK1 HRV
  go_wp2_with fail
  obtain ⟨wo, rfl⟩ : ∃ wo : World, wo = w := ⟨_, rfl⟩
  go_loopw [41] (fun v wr => Undo wo b gm cm n (some ⟨go, 0, none⟩) co (some ⟨gs, 0, none⟩) cs d L k g c v wr) (fun v _ => (L.length - upTo L k) - (intOf v).toNat)
  case atStart => exact HU.out
  case round =>
    obtain ⟨m, rfl, hm, hT, hr, hgf, hg, hK⟩ := hrel
    by_cases hlt : m < L.length - upTo L k
    · obtain ⟨q, x, q1, q2, hxl, x0, x1, hxv, hfx, htk⟩ := undo_step (show m < L.length by omega) HO.out.pre
      have tm : decide (m < L.length - upTo L k) = true := decide_eq_true hlt
      have cm0 : wr.cell? ⟨g, m, none⟩ = some (.int .i32 x.l) := by
        have := hr.cell (show m < (L.length - upTo L k) * 1 by omega)
        rw [this]
        show some (Value.int .i32 ((gone L k).getD m 0)) = _
        rw [gone_at _ _ _ hlt, hxl]
      have c0 := hT.h0
      have hbm := hT.mks.bd
      obtain ⟨hbm1, hbm2⟩ := hbm
      have ck := hT.mks.cell (show q * 3 < (n + 1) * 3 by omega)
      have f0 := hT.mks.free (q * 3)
      have f1 := hT.mks.free (q * 3 + 1)
      have f2 := hT.mks.free (q * 3 + 2)
      have ck1 := hT.mks.cell (show q * 3 + 1 < (n + 1) * 3 by omega)
      have ck2 := hT.mks.cell (show q * 3 + 2 < (n + 1) * 3 by omega)
      have HV : Hid (∀ e, Calls Try.prog 38 #[.int .i32 x.l] (wr.drewN e) fun e' w' => e' = .returned (.int .i64 q) ∧ w' = wr.drewN e) := fun e => (var_any x.l (wr.drewN e) x0 x1).mono fun e' w' ⟨a, b⟩ => ⟨by rw [a, hxv], b.symm⟩
      have HE : Hid (∀ e, Undo wo b gm cm n (some ⟨go, 0, none⟩) co (some ⟨gs, 0, none⟩) cs d L k g c (.int .i64 ((m : Int) + 1)) ((((wr.drewN e).setCell ⟨gm, q * 3, none⟩ (.int .i32 0)).setCell ⟨gm, q * 3 + 1, none⟩ (.int .i64 0)).setCell ⟨gm, q * 3 + 2, none⟩ (.int .i64 0))) := fun e => by
        have hng : g ≠ gm := fun e => hgf (.inr (.inl e))
        refine ⟨m + 1, by go_num, by omega, ((hT.drewN e).mark q2 0 0 0).congr (fun j _ => ?_) (fun _ _ => rfl) (fun _ _ => rfl), ?_, hgf, hg, ?_⟩
        · rw [htk]; exact mkC_undo hfx hxv.symm j
        · exact RowV.other (RowV.other (RowV.other (RowV.same hr rfl) (fun e => hng e.symm) _) (fun e => hng e.symm) _) (fun e => hng e.symm) _
        · exact (((hK.drewN e).set (.inl (.inr (.inl rfl))) _).set (.inl (.inr (.inl rfl))) _).set (.inl (.inr (.inl rfl))) _
      clear hT hr hgf hg hK hxl hfx htk
      generalize x.l = xl at *
      go_wp2_with fail
      go_quiet ((go_at_call 38; exact Calls.quiet_of_same (HV.out _)))
      go_wp2_with fail
      go_roundw
      case rel => exact HE.out _
      case measure => simp [intOf]; omega
    · have tm : decide (m < L.length - upTo L k) = false := decide_eq_false hlt
      obtain rfl : m = L.length - upTo L k := by omega
      rw [show L.length - (L.length - upTo L k) = upTo L k from by omega] at hT
      have c1 := hT.h1
      have c2 := hT.h2
      have f1 := hT.free 1
      have f2 := hT.free 2
      have hT2 := (hT.cutO (s := upTo L k) (by omega) (by omega)).cutS (s := k) (by omega) (by omega)
      have HE : Hid (BackPost (FootT b gm (some ⟨go, 0, none⟩) (some ⟨gs, 0, none⟩)) b n k L wo (.returned (.tuple #[.slice (some ⟨g, 0, none⟩) (L.length - upTo L k) c, .int .i64 0])) ((wr.setCell ⟨b, 1, none⟩ (.slice (some ⟨go, 0, none⟩) (upTo L k) co)).setCell ⟨b, 2, none⟩ (.slice (some ⟨gs, 0, none⟩) k cs))) := by
        have hnb : g ≠ b := fun e => hgf (.inl e)
        have hlen : (L.take (upTo L k)).length = upTo L k := by rw [List.length_take]; omega
        refine ⟨g, c, rfl, (hr.other (fun e => hnb e.symm) _).other (fun e => hnb e.symm) _, hg, ⟨gm, cm, some ⟨go, 0, none⟩, co, some ⟨gs, 0, none⟩, cs, ?_, HO.out.back (by omega), rfl⟩, (hK.set (.inl (.inl rfl)) _).set (.inl (.inl rfl)) _⟩
        show T3 _ b gm cm n _ (L.take (upTo L k)).length co _ k cs _ _ _
        rw [hlen]
        exact hT2.congr (fun _ _ => rfl) (fun j hj => orC_take L _ j hj) (fun j hj => by unfold stC; rw [upTo_back HO.out.pre (show j ≤ k by omega)])
      clear hT hT2 hr hgf hg hK
      go_wp2_with fail
      go_ret2
      exact HE.out
end
end Go.Proofs.Ytjhopjokllkipaa
