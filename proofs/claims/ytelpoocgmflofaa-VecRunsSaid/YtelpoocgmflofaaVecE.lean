/- The maker's products, in memory. -/
import Derived.Test.YtelpoocgmflofaaVecD
namespace Go.Proofs.Ytelpoocgmflofaa
open Go.RowKit GatM VecM

/-- The product so far in memory: its bits in a row of their own, the rest. -/
structure PrW (B : Nat) (w0 w : World) (c : GrC) (P R : List Nat) (g7 k c7 : Nat) (A8 : Option Addr) (n : Nat) (wr : World) (ck : GrC) (gk : Gs) : Prop where
  tr : LvTo B w0 w wr c ck gk
  row : RowV 25 1 wr g7 k c7 (numF .u32 P)
  ap : ¬ ck.own g7
  new : w.heap.size ≤ g7
  rest : VcAt wr ck A8 n R
section
variable {B : Nat} {w0 w : World} {c : GrC} {gs : Gs} {b : Nat}
set_option maxHeartbeats 3200000 in
set_option maxRecDepth 100000 in
theorem vprod_any (h : LvG B w0 w c gs) (hm : VMk w c b) {A D : Option Addr} {n m cn cm : Nat} {la lb : List Nat} (hla : VcAt w c A n la) (hlb : VcAt w c D m lb) (hia : AllIn gs la) (hib : AllIn gs lb) (hn : gs.length ≤ 30000) (hnn : n ≤ 32) (hmm : m ≤ 32) :
    Calls Try.prog 48 #[.pointer (some ⟨b, 0, none⟩), .slice A n cn, .slice D m cm] w (VecTo B w0 w c gs (m + n) (m * (18 * (n + 1))) (Cst la ∧ Cst lb) fun vals => valE vals gs la * valE vals gs lb) := by
  have hpa := hla.pos
  have hpb := hlb.pos
  have hlna := hla.len
  have hlnb := hlb.len
  obtain ⟨C7, hC71, hmk7⟩ := make_room (n + m) (by omega)
  obtain ⟨C8, hC81, hC82, hmk8⟩ := make_vec n (by omega)
  have hmk7' : ∀ W : World, (Instr.makeSlice 27 (.int .i64 0) (.int .i64 ((n : Int) + (m : Int)))).run Try.prog W = .ok (.slice (some ⟨W.heap.size, 0, none⟩) 0 (n + m)) (W.alloc (.cells C7 25)) := fun W => by
    have := hmk7 W
    rwa [Int.natCast_add] at this
  have HK : Hid (∀ k, k ≤ m → k * (18 * (n + 1)) ≤ 19008) := fun k hk => by
    have := Nat.mul_le_mul (show k ≤ 32 by omega) (show 18 * (n + 1) ≤ 594 by omega)
    omega
  have H0 : Hid (PrW B w0 w c [] (List.replicate n 0) w.heap.size 0 (n + m) (some ⟨w.heap.size + 1, 0, none⟩) n ((w.alloc (.cells C7 25)).alloc (.cells C8 25)) c gs ∧ PrK gs gs [] (List.replicate n 0) 0 n m (Cst la ∧ Cst lb) la lb) := by
    have hb1 : Below w.heap.size w (w.alloc (.cells C7 25)) := (Below.refl _ _).alloc (Nat.le_refl _) _
    have hb2 : Below (w.alloc (.cells C7 25)).heap.size (w.alloc (.cells C7 25)) ((w.alloc (.cells C7 25)).alloc (.cells C8 25)) := (Below.refl _ _).alloc (Nat.le_refl _) _
    have hsz : (w.alloc (.cells C7 25)).heap.size = w.heap.size + 1 := by simp
    refine ⟨⟨.ofBelow h (hb1.trans (hb2.mono hb1.size)), ?_, fun ho => by have := h.at_.lt ho; omega, Nat.le_refl _, ?_⟩, PrK.start h.wf hpa hpb⟩
    · refine RowV.alloc ?_ _
      exact ⟨C7, blk_new _ _, Nat.zero_le _, by unfold maxLen; omega, hC71, fun j hj => absurd hj (by omega)⟩
    · have hr : RowV 25 1 ((w.alloc (.cells C7 25)).alloc (.cells C8 25)) (w.heap.size + 1) n n (numF .u32 (List.replicate n 0)) := by
        rw [← hsz]
        exact RowV.made (by omega) hC81 fun j hj => by
          rw [hC82 j hj]
          unfold numF
          rw [List.getD, List.getElem?_replicate]
          split <;> rfl
      have := VcAt.row (c := c) hr (l := List.replicate n 0) (by rw [List.length_replicate]; exact hpa) (by rw [List.length_replicate]; exact Nat.le_refl _) (fun ho => by have := h.at_.lt ho; omega) (fun _ _ => rfl)
      rwa [List.length_replicate] at this
  have HM := Lib.hid hm
  have HA := Lib.hid hla
  have HD := Lib.hid hlb
  have HIA := Lib.hid hia
  have HIB := Lib.hid hib
  have HN := Lib.hid hn
  have HB := Lib.hid h.hB
  clear hmk7 hC71 hC81 hC82 h hm hla hlb hia hib hn
  go_enter Try.func48, Try.ntmps48
  go_wp2_with fail
  go_loopw [7, 8, 24] (fun u v i wr => ∃ (k c7 c8 g7 : Nat) (A8 : Option Addr) (P R : List Nat) (ck : GrC) (gk : Gs), u = .slice (some ⟨g7, 0, none⟩) k c7 ∧ v = .slice A8 n c8 ∧ i = .int .i64 (k : Int) ∧ k ≤ m ∧ Hid (PrW B w0 w c P R g7 k c7 A8 n wr ck gk ∧ PrK gs gk P R k n m (Cst la ∧ Cst lb) la lb)) (fun _ _ i _ => m - (intOf i).toNat)
  case atStart => exact ⟨0, n + m, n, w.heap.size, some ⟨w.heap.size + 1, 0, none⟩, [], List.replicate n 0, c, gs, rfl, rfl, rfl, Nat.zero_le _, H0⟩
  case round =>
    obtain ⟨k, c7, c8, g7, A8, P, R, ck, gk, rfl, rfl, rfl, hk, HO⟩ := hrel
    clear H0
    by_cases hlt : k < m
    · have tk : decide ((k : Int) < (m : Int)) = true := decide_eq_true (by omega)
      have tk2 : decide (k < m) = true := decide_eq_true hlt
      have tk3 : decide ((m : Int) ≤ (k : Int)) = false := decide_eq_false (by omega)
      obtain ⟨ho1, ho2⟩ := HO.out
      obtain ⟨bd, od, rfl, _, _, hc⟩ := (HD.out.to ho1.tr).at_
      have hx := hc k hlt
      obtain ⟨e, he⟩ : ∃ e, e = lb.getD k 0 := ⟨_, rfl⟩
      rw [← he] at hx
      have HE := Lib.hid he
      clear hc ho1 ho2 he
      go_upto_if 35 with (fail)
      go_cut [11] (fun v wx => v = .func (.func (if k + 1 < m then 35 else 47)) #[.pointer (some ⟨b, 0, none⟩)] #[] ∧ wx = wr)
      case first =>
        by_cases hl : (k : Int) < (m : Int) - 1
        · have t1 : decide ((k : Int) < (m : Int) - 1) = true := decide_eq_true hl
          go_wp2_with fail
          go_meet
          exact ⟨by rw [if_pos (by omega)], rfl⟩
        · have t1 : decide ((k : Int) < (m : Int) - 1) = false := decide_eq_false hl
          go_wp2_with fail
          go_meet
          exact ⟨by rw [if_neg (by omega)], rfl⟩
      case rest =>
      obtain ⟨rfl, rfl⟩ := hcut
      obtain ⟨ho1, ho2⟩ := HO.out
      have hg1 : gk.length ≤ 49008 := by have := ho2.len; have := HK.out k (by omega); have := HN.out; omega
      have hin : e / 2 < gs.length := by rw [HE.out]; exact HIB.out _ (nmem.2 ⟨k, by omega, rfl⟩)
      have HWH := Lib.hid (vwhere_any ho1.tr.lv (HM.out.to ho1.tr) (cn := cn) (HA.out.to ho1.tr) (HIA.out.ex ho2.ex) e (Nat.lt_of_lt_of_le hin ho2.ex.len) (by omega) (by omega))
      obtain ⟨f, hf⟩ : ∃ f, f = if k + 1 < m then 35 else 47 := ⟨_, rfl⟩
      rw [← hf]
      have HCL : Hid (∀ w1 g1 c1 gg cp W, ResL gk g1 W n (2 * n) (e < 2 ∧ Cst la) (fun vals => if sayE vals gk e then valE vals gk la else 0) → LvTo B w0 wc w1 ck c1 g1 → VcAt w1 c1 (some ⟨gg, 0, none⟩) n W → wc.heap.size ≤ gg →
          Calls Try.prog f #[.pointer (some ⟨b, 0, none⟩), .slice A8 n c8, .slice (some ⟨gg, 0, none⟩) n cp] w1 (VecTo B w0 w1 c1 g1 (n + 1) (16 * (n + 1)) (Cst R ∧ Cst W) fun vals => if k + 1 < m then valE vals g1 R + valE vals g1 W else valE vals g1 R - valE vals g1 W)) := fun w1 g1 c1 gg cp W hr hT hv hg => by
        have hl1 : g1.length ≤ 50000 := by have := hr.len; omega
        have hmx : max n n = n := Nat.max_self n
        by_cases hl : k + 1 < m
        · rw [hf, if_pos hl]
          have := vsum_any hT.lv ((HM.out.to ho1.tr).to hT) (cn := c8) (cm := cp) (ho1.rest.to hT) hv (ho2.inR.ex hr.ex) hr.inn (by omega) (by omega) (by omega)
          rw [hmx] at this
          simp only [if_pos hl]
          exact this
        · rw [hf, if_neg hl]
          have := vdiff_any hT.lv ((HM.out.to ho1.tr).to hT) (cn := c8) (cm := cp) (ho1.rest.to hT) hv (ho2.inR.ex hr.ex) hr.inn (by omega) (by omega) (by omega)
          rw [hmx] at this
          simp only [if_neg hl]
          exact this
      have HCF : Hid (∀ (x y z : Value) (W : World), (callFunc f #[x, y, z]).run Try.prog W = .ok (.enter f #[x, y, z]) W) := fun x y z W => by
        rw [hf]
        split <;> rfl
      clear hf ho1 ho2 hg1
      go_wp2_with fail
      refine HWH.out.mono ?_
      rintro e1 w1 ⟨gg, cp, W, g1, c1, rfl, hcp, hr1, hT1, hv1, hn1⟩
      have HC2 := Lib.hid (HCL.out w1 g1 c1 gg cp W hr1 hT1 hv1 hn1)
      have HR1 := Lib.hid hr1
      have HT1 := Lib.hid hT1
      have HN1 := Lib.hid hn1
      clear hcp hr1 hT1 hv1 hn1 HCL HWH
      go_wp2_with fail
      rw [HCF.out, Oper.upon_enter]
      refine HC2.out.mono ?_
      rintro e1 w2 ⟨gq, cq, Q, g2, c2, rfl, hcq, hr2, hT2, hv2, hn2⟩
      have HF : Hid (SlV 25 1 (w2.alloc (.cells #[.int .u32 ((Q.getD 0 0 : Nat) : Int)] 25)) (some ⟨g7, 0, none⟩) k c7 (numF .u32 P) ∧ w2.cell? ⟨gq, 0, none⟩ = some (.int .u32 ((Q.getD 0 0 : Nat) : Int)) ∧
          ∀ w4 g4 c4, RowV 25 1 w4 g4 (k + 1) c4 (appV (numF .u32 P) (k * 1) [.int .u32 ((Q.getD 0 0 : Nat) : Int)]) → (onB (some ⟨g7, 0, none⟩) g4 ∨ (w2.alloc (.cells #[.int .u32 ((Q.getD 0 0 : Nat) : Int)] 25)).heap.size ≤ g4) → Kf (fun j => onB (some ⟨g7, 0, none⟩) j) (w2.alloc (.cells #[.int .u32 ((Q.getD 0 0 : Nat) : Int)] 25)) w4 →
            Hid (PrW B w0 w c (P ++ [Q.getD 0 0]) (Q.drop 1) g4 (k + 1) c4 (some ⟨gq, 1, none⟩) n w4 c2 g2 ∧ PrK gs g2 (P ++ [Q.getD 0 0]) (Q.drop 1) (k + 1) n m (Cst la ∧ Cst lb) la lb)) := by
        obtain ⟨ho1, ho2⟩ := HO.out
        obtain ⟨q1, q2⟩ := HT1.out.gst g7 ho1.row.lt ho1.ap
        have hr1 := ho1.row.same q1
        obtain ⟨q3, q4⟩ := hT2.gst g7 hr1.lt q2
        have hr2' := hr1.same q3
        have hb : Below w2.heap.size w2 (w2.alloc (.cells #[.int .u32 ((Q.getD 0 0 : Nat) : Int)] 25)) := (Below.refl _ _).alloc (Nat.le_refl _) _
        have hgq : wc.heap.size ≤ gq := Nat.le_trans HT1.out.size hn2
        have hne : gq ≠ g7 := by have := ho1.row.lt; omega
        have hT := (ho1.tr.trans HT1.out).trans hT2
        refine ⟨.inr ⟨g7, rfl, hr2'.alloc _⟩, ?_, fun w4 g4 c4 h1 h2 h3 => ⟨⟨?_, h1.congr fun j hj => ?_, ?_, ?_, ?_⟩, ?_⟩⟩
        · obtain ⟨bb, oo, ee, _, _, hcc⟩ := hv2.at_
          injection ee with ee
          injection ee with e1 e2
          subst e1; subst e2
          exact hcc 0 (by omega)
        · refine (hT.trans (.ofBelow hT.lv hb)).kf h3 (fun x hx => ?_) HB.out
          rw [onB_some] at hx
          have hx : x = g7 := hx
          rw [hx]; exact ⟨q4, ho1.new⟩
        · have := numF_app (k := .u32) (l := P) (x := Q.getD 0 0) (j := j) (by rw [List.length_append, ho2.lP]; simp; omega)
          rw [ho2.lP] at this
          exact this
        · intro ho
          rcases h2 with e | e
          · rw [onB_some] at e
            have e : g4 = g7 := e
            rw [e] at ho; exact q4 ho
          · have := hT2.lv.at_.lt ho
            simp at e; omega
        · rcases h2 with e | e
          · rw [onB_some] at e
            have e : g4 = g7 := e
            rw [e]; exact ho1.new
          · have := hT.size
            simp at e; omega
        · refine ⟨hpa, by rw [List.length_drop, hr2.ll]; rfl, gq, 1, rfl, ?_, hv2.ap gq ((onB_some _ _).2 rfl), fun j hj => ?_⟩
          · obtain ⟨bb, oo, ee, hbb, _, _⟩ := hv2.at_
            injection ee with ee
            injection ee with e1 e2
            subst e1
            exact Nat.lt_of_lt_of_le hbb (Nat.le_trans hb.size h3.size)
          · obtain ⟨bb, oo, ee, hbb, _, hcc⟩ := hv2.at_
            injection ee with ee
            injection ee with e1 e2
            subst e1; subst e2
            have hk4 : w4.heap[gq]? = w2.heap[gq]? := (h3.block gq (Nat.lt_of_lt_of_le hbb hb.size) (fun q => by
              rw [onB_some] at q
              exact hne q)).trans (hb.block gq hbb)
            rw [World.cell?_of_block (a := ⟨gq, 1 + j, none⟩) hk4]
            have := hcc (1 + j) (by omega)
            rw [Nat.zero_add] at this
            rw [this, List.getD, List.getD, List.getElem?_drop]
        · exact ho2.step hpa hlt HE.out.symm hlnb (by rw [HE.out]; exact HIB.out _ (nmem.2 ⟨k, by omega, rfl⟩)) HIA.out (by omega) HR1.out hr2 (by omega) (fun q => ⟨by rw [HE.out]; exact q.2 _ (nmem.2 ⟨k, by omega, rfl⟩), q.1⟩) (fun q r => ⟨q, r⟩)
      obtain ⟨hsl, x0, hfn⟩ := HF.out
      have HSL := Lib.hid hsl
      have HFN := Lib.hid hfn
      have hcq0 : 0 < n + 1 := by omega
      have tq : (cq == 1) = false := by rw [beq_eq_false_iff_ne]; omega
      have tq2 : ¬ cq = 1 := by omega
      clear HC2 HCF HR1 HT1 HO hr2 hT2 hv2 hn2 HF hsl hfn HN1
      generalize Q.getD 0 0 = q at *
      go_wp2_with (at_builtin; refine wpList_append_sl _ rfl _ _ 27 25 rfl Try.underlying27 info_vec rfl (by decide) (by decide) (some ⟨g7, 0, none⟩) k c7 (numF .u32 P) rfl HSL.out (by omega) ⟨w2.heap.size, 0, none⟩ 1 1 [.int .u32 (q : Int)] rfl rfl (box_news w2 25 _) (by simp [Value.oneCell']) (by omega) (by omega) ?_)
      intro g4 c4 w4 hr4 hg4 hk4
      have HN4 := HFN.out w4 g4 c4 (by rw [Nat.mul_one]; exact hr4) (by simpa using hg4) (hk4 _ fun j hj => hj)
      clear hr4 hg4 hk4 HFN HSL x0
      go_wp2_with fail
      go_roundw
      case rel => exact ⟨k + 1, c4, cq - 1, g4, some ⟨gq, 1, none⟩, P ++ [q], Q.drop 1, c2, g2, rfl, rfl, by go_num, by omega, HN4⟩
      case measure => simp [intOf]; omega
    · have tk : decide ((k : Int) < (m : Int)) = false := decide_eq_false (by omega)
      have tk2 : decide (k < m) = false := decide_eq_false hlt
      obtain rfl : k = m := by omega
      obtain ⟨ho1, ho2⟩ := HO.out
      obtain ⟨b8, o8, rfl, hb8, ho8, hc8⟩ := ho1.rest.at_
      have HSL : Hid (SlV 25 1 wr (some ⟨g7, 0, none⟩) k c7 (numF .u32 P)) := .inr ⟨g7, rfl, ho1.row⟩
      have HNW : Hid (∀ (j : Nat) (u : Value), (R.map fun x : Nat => Value.int .u32 (x : Int))[j]? = some u → wr.cell? ((⟨b8, o8, none⟩ : Addr).add j) = some u) := fun j u hj => by
        have ha : ((⟨b8, o8, none⟩ : Addr).add j) = ⟨b8, o8 + j, none⟩ := by unfold Addr.add; split <;> simp_all
        rw [List.getElem?_map] at hj
        cases hj2 : R[j]? with
        | none => rw [hj2] at hj; cases hj
        | some x =>
          rw [hj2] at hj
          injection hj with hj
          have hl : j < n := by
            have := (List.getElem?_eq_some_iff.1 hj2).1
            rw [ho2.lR] at this
            exact this
          rw [ha, hc8 j hl, List.getD, hj2, ← hj]
          rfl
      have HLN : Hid ((R.map fun x : Nat => Value.int .u32 (x : Int)).length = n * 1) := by unfold Hid; rw [List.length_map, ho2.lR, Nat.mul_one]
      have HOC : Hid (∀ u ∈ (R.map fun x : Nat => Value.int .u32 (x : Int)), u.oneCell' = true) := fun u hu => by
        obtain ⟨x, _, rfl⟩ := List.mem_map.1 hu
        rfl
      have HFN : Hid (∀ w4 g4 c4, RowV 25 1 w4 g4 (k + n) c4 (appV (numF .u32 P) k (R.map fun x : Nat => Value.int .u32 (x : Int))) → (onB (some ⟨g7, 0, none⟩) g4 ∨ wr.heap.size ≤ g4) → Kf (fun j => onB (some ⟨g7, 0, none⟩) j) wr w4 →
          Hid (VecTo B w0 w c gs (k + n) (k * (18 * (n + 1))) (Cst la ∧ Cst lb) (fun vals => valE vals gs la * valE vals gs lb) (.returned (.slice (some ⟨g4, 0, none⟩) (k + n) c4)) w4)) := fun w4 g4 c4 h1 h2 h3 => by
        have hT : LvTo B w0 w w4 c ck gk := ho1.tr.kf h3 (fun x hx => by
          rw [onB_some] at hx
          have hx : x = g7 := hx
          rw [hx]; exact ⟨ho1.ap, ho1.new⟩) HB.out
        have hfin := ho2.fin hpa
        have hng : ¬ ck.own g4 := fun ho => by
          rcases h2 with e | e
          · rw [onB_some] at e
            have e : g4 = g7 := e
            rw [e] at ho; exact ho1.ap ho
          · have := ho1.tr.lv.at_.lt ho
            omega
        have hv := VcAt.row (l := P ++ R) h1 (by rw [hfin.ll]; omega) (by rw [hfin.ll]; exact Nat.le_refl _) hng (fun j hj => by
          rw [hfin.ll] at hj
          unfold appV numF
          by_cases e : j < k
          · rw [if_pos e, List.getD, List.getD, List.getElem?_append_left (by rw [ho2.lP]; exact e)]
          · rw [if_neg e, List.getD, List.getD, List.getElem?_append_right (by rw [ho2.lP]; omega), ho2.lP, List.getElem?_map]
            have hjr : j - k < R.length := by rw [ho2.lR]; omega
            rw [List.getElem?_eq_getElem hjr]; rfl)
        rw [hfin.ll] at hv
        refine ⟨g4, c4, P ++ R, gk, ck, rfl, h1.bd.1, hfin, hT, hv, ?_⟩
        rcases h2 with e | e
        · rw [onB_some] at e
          have e : g4 = g7 := e
          rw [e]; exact ho1.new
        · exact Nat.le_trans ho1.tr.size e
      clear ho1 ho2 hc8 HO hb8 ho8
      generalize (R.map fun x : Nat => Value.int .u32 (x : Int)) = news at *
      go_upto_region 13 with (fail)
      go_wp2_with (at_builtin; refine wpList_append_sl _ rfl _ _ 27 25 rfl Try.underlying27 info_vec rfl (by decide) (by decide) (some ⟨g7, 0, none⟩) k c7 (numF .u32 P) rfl HSL.out (by omega) ⟨b8, o8, none⟩ n c8 news rfl HLN.out HNW.out HOC.out (by omega) (by omega) ?_)
      intro g4 c4 w4 hr4 hg4 hk4
      have HN4 := HFN.out w4 g4 c4 hr4 hg4 (hk4 _ fun j hj => hj)
      clear hr4 hg4 hk4 HFN HSL HNW HLN HOC
      go_wp2_with fail
      go_ret
      exact HN4.out
end
end Go.Proofs.Ytelpoocgmflofaa
