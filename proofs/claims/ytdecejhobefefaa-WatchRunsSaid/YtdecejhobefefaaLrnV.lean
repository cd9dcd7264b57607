/- What learn.Learn answers. -/
import Derived.Test.YtdecejhobefefaaLrnU
namespace Go.Proofs.Ytdecejhobefefaa
open Go.Shelf Go.RowKit Go.Lib LitM TrailM EngM

/-- How far one goes back. -/
def backZ (S : Eng) : List Int → Int
  | _ :: y :: _ => lvl S y
  | _ => 0
/-- What is learnt, of a conflict of level t. -/
structure Lrnt (S : Eng) (t : Nat) (zs : List Int) : Prop where
  nd : zs.Nodup
  fl : ∀ y ∈ zs, valZ S.L y = -1 ∧ 1 ≤ lvl S y ∧ lvl S y ≤ (t : Int)
  hd : ∃ u r, zs = u :: r ∧ lvl S u = (t : Int) ∧ (∀ y ∈ r, lvl S y < (t : Int) ∧ lvl S y ≤ backZ S zs) ∧ (r = [] ∧ backZ S zs = 0 ∨ ∃ y ∈ r, lvl S y = backZ S zs)
  rup : ∀ T, Cls S T → ¬ ∀ l ∈ zs, T (-l)
  need : ∀ l ∈ zs, lvl S l ≠ (t : Int) → 0 ≤ reaZ S.L (varZ l) → ∃ y ∈ reaL S (varZ l), y ≠ -l ∧ 0 < lvl S y ∧ y ∉ zs
theorem false_var {S : Eng} (hI : Inv S) {y : Int} (h : valZ S.L y = -1) : varZ y ≤ (S.n : Int) ∧ LitM.one y = true := by
  obtain ⟨ho, j, x, hx, e, _⟩ := false_at hI h
  have := hI.pre.one x (List.mem_of_getElem? hx)
  rw [e, var_neg ho] at this
  exact ⟨this.2.1, ho⟩
theorem rk_lvl {S : Eng} (hI : Inv S) {x y : Int} (hx : valZ S.L x = -1) (hy : valZ S.L y = -1) (h : rkZ S x ≤ rkZ S y) : lvl S y ≤ lvl S x := by
  have h1 := (false_var hI hx).1
  have h2 := (false_var hI hy).1
  have h3 := varZ_bd x
  have h4 := varZ_bd y
  have h5 := hI.small.n
  unfold rkZ at h
  omega
theorem lrnt_of {S : Eng} (hI : Inv S) (hDI : DecI S) {t k : Nat} {M zs : List Int} (hG : Good S t k M) (hc : cntM S t M = 1) (hnd : zs.Nodup) (hm : ∀ y, y ∈ zs ↔ y ∈ M ∧ keepB S t M y = true) (hp : zs.Pairwise (fun a b => rkZ S a ≤ rkZ S b)) : Lrnt S t zs := by
  have hf : ∀ y ∈ zs, valZ S.L y = -1 ∧ 1 ≤ lvl S y ∧ lvl S y ≤ (t : Int) := fun y hy => hG.fl y ((hm y).1 hy).1
  have hex : ∃ y ∈ zs, lvl S y = (t : Int) := by
    obtain ⟨y, hy, e⟩ := hG.top
    exact ⟨y, (hm y).2 ⟨hy, by unfold keepB; rw [decide_eq_true e]; rfl⟩, e⟩
  have huniq : ∀ a ∈ zs, ∀ b ∈ zs, lvl S a = (t : Int) → lvl S b = (t : Int) → a = b := by
    intro a ha b hb ea eb
    unfold cntM at hc
    obtain ⟨x, hx⟩ := List.length_eq_one_iff.1 hc
    have h1 : a ∈ M.filter fun l => decide (lvl S l = (t : Int)) := List.mem_filter.2 ⟨((hm a).1 ha).1, by simpa using ea⟩
    have h2 : b ∈ M.filter fun l => decide (lvl S l = (t : Int)) := List.mem_filter.2 ⟨((hm b).1 hb).1, by simpa using eb⟩
    rw [hx] at h1 h2
    have e1 : a = x := by simpa using h1
    have e2 : b = x := by simpa using h2
    rw [e1, e2]
  refine ⟨hnd, hf, ?_, fun T hT hall => keep_rup hI hDI hG hT fun l hl hk => hall l ((hm l).2 ⟨hl, hk⟩), fun l hl hne h0 => ?_⟩
  · obtain ⟨y0, hy0, e0⟩ := hex
    match zs, hnd, hm, hp, hf, huniq, hy0 with
    | u :: r, hnd, hm, hp, hf, huniq, hy0 =>
      have hu := hf u (by simp)
      obtain ⟨hp1, hp2⟩ := List.pairwise_cons.1 hp
      have hle : ∀ y ∈ r, lvl S y ≤ lvl S u := fun y hy => rk_lvl hI hu.1 (hf y (List.mem_cons_of_mem _ hy)).1 (hp1 y hy)
      have hut : lvl S u = (t : Int) := by
        rcases List.mem_cons.1 hy0 with e | e
        · rw [← e]; exact e0
        · have := hle y0 e
          have := hu.2.2
          omega
      have hlt : ∀ y ∈ r, lvl S y < (t : Int) := fun y hy => by
        have h1 := (hf y (List.mem_cons_of_mem _ hy)).2.2
        by_cases e : lvl S y = (t : Int)
        · have := huniq u (by simp) y (List.mem_cons_of_mem _ hy) hut e
          subst this
          exact absurd hy (List.nodup_cons.1 hnd).1
        · omega
      refine ⟨u, r, rfl, hut, fun y hy => ⟨hlt y hy, ?_⟩, ?_⟩
      · match r, hy, hp2, hf with
        | v :: r2, hy, hp2, hf =>
          show lvl S y ≤ lvl S v
          rcases List.mem_cons.1 hy with rfl | e
          · exact Int.le_refl _
          · exact rk_lvl hI (hf v (by simp)).1 (hf y (by simp [e])).1 ((List.pairwise_cons.1 hp2).1 y e)
      · match r with
        | [] => exact .inl ⟨rfl, rfl⟩
        | v :: r2 => exact .inr ⟨v, by simp, rfl⟩
  · have hk := ((hm l).1 hl).2
    unfold keepB at hk
    rw [decide_eq_false hne, Bool.false_or, Bool.not_eq_true'] at hk
    unfold sparB at hk
    rw [decide_eq_true h0, Bool.true_and, Bool.not_eq_false', List.any_eq_true] at hk
    obtain ⟨y, hy, hk⟩ := hk
    simp only [Bool.and_eq_true, Bool.not_eq_true', decide_eq_true_eq, decide_eq_false_iff_not] at hk
    exact ⟨y, hy, hk.1.1, hk.1.2, fun e => hk.2 ((hm y).1 e).1⟩
/-- Is a clause a conflict of which something is learnt? -/
def CnfZ (S : Eng) (id : Int) : Prop := (∀ l ∈ clsL S id, valZ S.L l = -1) ∧ 0 < topZ S (clsL S id)
/-- What Learn leaves. -/
def LrnTo (S : Eng) (id : Int) (w : World) (e : Ending) (w' : World) : Prop :=
  Below w.heap.size w w' ∧
  ((¬ CnfZ S id ∧ e = .returned (.tuple #[.slice none 0 0, .int .i64 0, .int .i64 61])) ∨
   (CnfZ S id ∧ ∃ g c zs, e = .returned (.tuple #[.slice (some ⟨g, 0, none⟩) zs.length c, .int .i64 (backZ S zs), .int .i64 0]) ∧ Lrnt S (topZ S (clsL S id)).toNat zs ∧ RowV 43 1 w' g zs.length c (lsC zs) ∧ w.heap.size ≤ g))
set_option maxHeartbeats 6400000 in
set_option maxRecDepth 100000 in
theorem learn_any {w : World} {b : Nat} {q : Pm} {S : Eng} {d : Nat} (h : E6 w b q S d) (hI : Inv S) (hDI : DecI S) (id : Int) :
    Calls Try.prog 29 #[.pointer (some ⟨b, 0, none⟩), .int .i64 id] w (LrnTo S id w) := by
  have HBeg := Lib.hid (begin_any h hI id)
  have HE := Lib.hid h
  have HI := Lib.hid hI
  have HDI := Lib.hid hDI
  obtain ⟨hxo, hxl⟩ := clsL_ok hI id
  have HXL := Lib.hid hxl
  obtain ⟨t0, t1, t2⟩ := topZ_ok S (clsL S id)
  clear h hI hDI hxo
  go_enter Try.func29, Try.ntmps29
  go_wp2_with fail
  refine HBeg.out.mono ?_
  rintro e w1 hb
  unfold BegTo at hb
  rcases hb with ⟨⟨l, hl, hv⟩, rfl, hB⟩ | ⟨hf, bd, bm, rfl, hD, hM, hbd, hbm, hB⟩
  · have HN : Hid (¬ CnfZ S id) := fun hc => hv (hc.1 l hl)
    have HB := Lib.hid hB
    clear hB hl hv hxl
    go_wp2_with fail
    go_ret3
    exact ⟨HB.out, .inl ⟨HN.out, rfl⟩⟩
  by_cases ht : 0 < topZ S (clsL S id)
  case neg =>
    have tt : decide (0 < topZ S (clsL S id)) = false := decide_eq_false ht
    have HN : Hid (¬ CnfZ S id) := fun hc => ht hc.2
    have HB := Lib.hid hB
    rw [tt]
    clear hB hD hM hf ht tt hxl t0 t1 t2
    go_wp2_with fail
    go_ret3
    exact ⟨HB.out, .inl ⟨HN.out, rfl⟩⟩
  have tt : decide (0 < topZ S (clsL S id)) = true := decide_eq_true ht
  have HCN : Hid (CnfZ S id) := ⟨hf, ht⟩
  rw [tt]
  obtain ⟨t, htt⟩ : ∃ t : Nat, topZ S (clsL S id) = (t : Int) := ⟨(topZ S (clsL S id)).toNat, by omega⟩
  have htn : (topZ S (clsL S id)).toNat = t := by rw [htt]; simp
  have h0 : 0 < t := by omega
  have hG : Good S t S.L.length (addM S [] (clsL S id)) := by
    have hth : thereB S id = true := by
      cases e : thereB S id with
      | true => rfl
      | false =>
        have : clsL S id = [] := by unfold clsL; rw [e]; simp
        rw [this] at ht
        simp [topZ] at ht
    have hcl : clsL S id = (clA S.cs id.toNat).ls := by unfold clsL; rw [if_pos hth]
    unfold thereB at hth
    simp only [Bool.and_eq_true, decide_eq_true_eq] at hth
    have hex : ∃ l ∈ clsL S id, lvl S l = (t : Int) := by
      rcases t2 with e | e
      · omega
      · rw [htt] at e; exact e
    rw [htt] at t1
    rw [hcl] at hf t1 hex ⊢
    exact good_start HI.out HDI.out (by omega) hth.2 hf h0 t1 hex
  rw [htt] at hD
  rw [show ((t : Int)).toNat = t by simp] at hD
  have HR := Lib.hid (dresolve_any (HE.out.below hB) HI.out HDI.out (HE.out.fr bd hbd) (HE.out.fr bm hbm) hD hM hG HXL.out h0)
  have HB := Lib.hid hB
  have HF : Hid (w.heap.size ≤ bd ∧ w.heap.size ≤ bm) := ⟨hbd, hbm⟩
  have HT : Hid ((topZ S (clsL S id)).toNat = t) := htn
  clear hB hD hM hf ht tt hxl t0 t1 t2 htt htn hG
  go_wp2_with fail
  refine HR.out.mono ?_
  rintro e w2 ⟨rfl, M', k, n', hG, hc, hD, hM, hk⟩
  have HB2 : Hid (Below w.heap.size w w2) := HB.out.trans (hk.below HB.out.size (fun i hi => hi.elim (fun e => e ▸ HF.out.1) (fun e => e ▸ HF.out.2)))
  have HS := Lib.hid (shorten_any (HE.out.below HB2.out) HI.out hD hM hG.nd (fun y hy => (hG.fl y hy).1) hG.top)
  have HG := Lib.hid hG
  have HC := Lib.hid hc
  have c0 := hD.c0
  have hbl := hD.lt
  clear hG hc hM hk HR hbd hbm
  go_wp2_with fail
  refine HS.out.mono ?_
  rintro e w3 ⟨g, c, zs, rfl, hnd, hm, hp, hr, hg, hb3⟩
  have HL := Lib.hid (lrnt_of HI.out HDI.out HG.out HC.out hnd hm hp)
  have HB3 : Hid (Below w.heap.size w w3) := HB2.out.trans (hb3.mono HB2.out.size)
  have HR3 := Lib.hid hr
  have HGG : Hid (w.heap.size ≤ g) := Nat.le_trans HB2.out.size hg
  have c3 : w3.cell? ⟨bd, 0, none⟩ = some (.pointer (some ⟨b, 0, none⟩)) := (hb3.cell (p := ⟨bd, 0, none⟩) hbl).trans c0
  have hzl : zs.length ≤ 90000 := by
    have := mlen HI.out hnd (fun y hy => (HL.out.fl y hy).1)
    have h2 := HI.out.ok.len
    have h3 := HI.out.small.n
    omega
  clear HS hD c0 hbl hnd hm hp hb3 hg
  by_cases h1 : 1 < zs.length
  · have t1 : decide ((1 : Int) < (zs.length : Int)) = true := decide_eq_true (by omega)
    obtain ⟨u, y, r, rfl⟩ : ∃ u y r, zs = u :: y :: r := by
      match zs, h1 with
      | u :: y :: r, _ => exact ⟨u, y, r, rfl⟩
    have c4 : w3.cell? ⟨g, 1, none⟩ = some (.int .i32 y) := by
      rw [hr.cell (show 1 < (u :: y :: r).length * 1 by simp)]; rfl
    have hy1 := (one_iff y).1 (false_var HI.out (HL.out.fl y (by simp)).1).2
    have HLv := Lib.hid (dlevel_any (HE.out.below HB3.out) c3 HI.out.small.n y (by omega) (by omega))
    clear hr hy1
    generalize hn : (u :: y :: r).length = n at *
    have HLN := Lib.hid hn
    clear hn
    go_wp2_with fail
    refine HLv.out.mono ?_
    rintro e w4 ⟨rfl, rr, rfl⟩
    go_wp2_with fail
    go_ret3
    refine ⟨⟨HB3.out.os, HB3.out.tape, HB3.out.output, HB3.out.size, HB3.out.block⟩, .inr ⟨HCN.out, g, c, _, by rw [HLN.out]; rfl, by rw [HT.out]; exact HL.out, by rw [HLN.out]; exact HR3.out.same rfl, HGG.out⟩⟩
  · have t1 : decide ((1 : Int) < (zs.length : Int)) = false := decide_eq_false (by omega)
    obtain ⟨u, r, e1, _⟩ := HL.out.hd
    obtain rfl : r = [] := by
      rw [e1] at h1
      simp at h1
      exact h1
    have HBZ : Hid (backZ S zs = 0) := by rw [e1]; rfl
    clear hr e1
    go_wp2_with fail
    go_ret3
    exact ⟨HB3.out, .inr ⟨HCN.out, g, c, zs, by rw [HBZ.out]; rfl, by rw [HT.out]; exact HL.out, HR3.out, HGG.out⟩⟩
end Go.Proofs.Ytdecejhobefefaa
