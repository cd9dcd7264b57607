/- The contract of an engine's tell: a clause is told that a literal that it watches is false. -/
import Derived.Test.YtkckodpfhlpkgaaGreatEFast
import Derived.Test.YtkckodpfhlpkgaaGreatEngS
import Derived.Test.YtkckodpfhlpkgaaGreatCleanM
namespace Go.Proofs.YtkckodpfhlpkgaaGreat
open Go.RowKit LitM TrailM EngM

theorem plc_inj {a b : Int} (ha : one a = true) (hb : one b = true) (h : plc a = plc b) : a = b := by
  have h0 : ∀ l : Int, 0 ≤ placeZ l := fun l => by unfold placeZ absZ; split <;> (try split) <;> (try split) <;> omega
  refine place_inj ha hb ?_
  have := h0 a
  have := h0 b
  unfold plc at h
  omega
theorem nextF_at {S : Eng} {id : Nat} (hi : id < S.cs.length) : clA (nextF S id).cs id = { clA S.cs id with nx := (anoF S.L (clA S.cs id) (clA S.cs id).ls.length (clA S.cs id).nx).1 } := by
  unfold nextF
  rw [clA_set hi, if_pos rfl]
/-- What tell leaves. -/
def TellTo (w : World) (b : Nat) (q : Pm) (S : Eng) (d id : Nat) (wrong : Int) (e : Ending) (w' : World) : Prop :=
  e = .returned (.int .i64 (tellF S id wrong).2) ∧ ∃ q', E6 w' b q' (tellF S id wrong).1 d ∧ Ext q q' w w' ∧ q'.Wb (plc wrong) = q.Wb (plc wrong)
set_option maxHeartbeats 6400000 in
set_option maxRecDepth 100000 in
theorem tell_any {w : World} {b : Nat} {q : Pm} {S : Eng} {d K : Nat} (h : E6 w b q S d) (hS : Sf S K) (hd : d = S.le.length) (hK : K ≤ 80000) (hwa : 2 * (S.n + 1) ≤ S.wa.length) {id : Nat} (hi : id < S.cs.length) (wrong : Int) (hw1 : one wrong = true)
    (hw : (clA S.cs id).pr = true → (clA S.cs id).w0 ∈ (clA S.cs id).ls ∧ (clA S.cs id).w1 ∈ (clA S.cs id).ls ∧ (wrong = (clA S.cs id).w0 ∨ wrong = (clA S.cs id).w1)) :
    Calls Tryz.prog 76 #[.pointer (some ⟨b, 0, none⟩), .int .i64 (id : Int), .int .i32 wrong] w (TellTo w b q S d id wrong) := by
  obtain ⟨gc, hA, hrow, _⟩ := h.clsRow hi
  have hcw := hrow.bd
  obtain ⟨hcw1, hcw2⟩ := hcw
  obtain ⟨hls, hnx, hll, _, _⟩ := hS.cl id hi
  have hn := hS.n
  obtain ⟨c0, c1, c2, c3, c4, cf⟩ := h.clCells hi hA
  have h0 := h.h0
  have h1 := h.h1
  rw [hA] at h1
  have HE := Lib.hid h
  have f2 := cf (id * 5 + 2)
  have f3 := cf (id * 5 + 3)
  cases hp : (clA S.cs id).pr with
  | false =>
    have HR : Hid (tellF S id wrong = (S, 1)) := by unfold Hid tellF; rw [if_pos hp]
    rw [hp] at c0
    unfold TellTo
    rw [HR.out]
    clear h hrow hS hw
    generalize S.cs.length = nc at *
    go_enter Tryz.func76, Tryz.ntmps76
    go_wp2_with fail
    go_ret
    exact ⟨rfl, q, HE.out, Ext.refl _ _, rfl⟩
  | true =>
    rw [hp] at c0
    obtain ⟨m0, m1, mw⟩ := hw hp
    have hT0 : tellF S id wrong = if valZ S.L (otherW (clA S.cs id) wrong) = 1 then (S, 0) else if anoL S id ≠ 0 then (watchF (rewatch (nextF S id) id (otherW (clA S.cs id) wrong) (anoL S id)) id (anoL S id), 1) else if valZ S.L (otherW (clA S.cs id) wrong) = 0 then (setF (nextF S id) (otherW (clA S.cs id) wrong) id, 0) else (nextF S id, 2) := by
      conv => lhs; unfold tellF
      rw [if_neg (by rw [hp]; simp)]
    have HT0 := Lib.hid hT0
    clear hT0
    -- the call of another
    have HAn := Lib.hid (another_any h hi hA hls hnx hll hn)
    have han := anoL_in hS hi
    have HAL : Hid (anoL S id = 0 ∨ (anoL S id ∈ (clA S.cs id).ls ∧ anoL S id ≠ wrong ∧ one (anoL S id) = true ∧ varZ (anoL S id) ≤ S.n)) := by
      rcases han with e | ⟨e, e2⟩
      · exact .inl e
      · refine .inr ⟨e, ?_, (hls _ e).1, (hls _ e).2⟩
        unfold fitB at e2
        simp only [Bool.and_eq_true, decide_eq_true_eq] at e2
        rcases mw with x | x
        · rw [x]; exact e2.1.1
        · rw [x]; exact e2.1.2
    have HSN := Lib.hid (nextF_sf hS hi)
    have HIN : Hid (id < (nextF S id).cs.length) := by unfold Hid nextF; rw [List.length_set]; exact hi
    by_cases hcase : (clA S.cs id).w0 = wrong
    · have tc : ((clA S.cs id).w0 == wrong) = true := by rw [beq_iff_eq]; exact hcase
      have ho : otherW (clA S.cs id) wrong = (clA S.cs id).w1 := by unfold otherW; rw [if_pos hcase]
      have hm := m1
      rw [ho] at HT0
      have oo := hls _ hm
      have ob := (one_iff _).1 oo.1
      have HV : Hid (Calls Tryz.prog 36 #[.pointer (some ⟨q.bt, 0, none⟩), .int .i32 (clA S.cs id).w1] w fun e w' => e = .returned (.int .i64 (valZ S.L (clA S.cs id).w1)) ∧ w = w') := by
        obtain ⟨F, gm, cm, ao, co, az, cz, hQ, hO, _⟩ := h.trail
        exact tvalue_nat w hQ hO.pre (by omega) _ (by omega) (by omega)
      have HOX : Hid ((clA S.cs id).w1 ∈ (clA S.cs id).ls) := hm
      clear h hrow hw m0 m1 mw ho hm hcase
      obtain ⟨o, hoe⟩ : ∃ o, o = (clA S.cs id).w1 := ⟨_, rfl⟩
      rw [← hoe] at HT0 oo ob HV HOX c3
      clear hoe
      unfold TellTo
      by_cases hv1 : valZ S.L o = 1
      · have HR : Hid (tellF S id wrong = (S, 0)) := by unfold Hid; rw [HT0.out, if_pos hv1]
        rw [HR.out]
        rw [hv1] at HV
        clear hS HSN HAn HT0 HAL hv1 han
        generalize S.cs.length = nc at *
        generalize (clA S.cs id).w0 = v0 at *
        as_aux_lemma =>
        go_enter Tryz.func76, Tryz.ntmps76
        go_wp2_with fail
        refine HV.out.mono ?_
        rintro e w' ⟨rfl, rfl⟩
        go_wp2_with fail
        go_ret
        exact ⟨rfl, q, HE.out, Ext.refl _ _, rfl⟩
      have tv1 : (valZ S.L o == 1) = false := by rw [beq_eq_false_iff_ne]; exact hv1
      have HT1 : Hid (tellF S id wrong = if anoL S id ≠ 0 then (watchF (rewatch (nextF S id) id o (anoL S id)) id (anoL S id), 1) else if valZ S.L o = 0 then (setF (nextF S id) o id, 0) else (nextF S id, 2)) := by unfold Hid; rw [HT0.out, if_neg hv1]
      by_cases hl0 : anoL S id = 0
      · by_cases hv0 : valZ S.L o = 0
        · have HR : Hid (tellF S id wrong = (setF (nextF S id) o id, 0)) := by unfold Hid; rw [HT1.out, if_neg (by simpa using hl0), if_pos hv0]
          have hfn := val_none hv0
          have he : errZ S.n S.L o = 0 := by
            unfold errZ
            rw [if_neg (by simp only [oo.1]; rintro (e | e); cases e; have := oo.2; omega), if_neg (by rw [hfn]; simp)]
          have HTS : Hid (∀ w2, E6 w2 b q (nextF S id) d → ∃ F, (∀ k, F k → q.own k = .trail) ∧ Calls Tryz.prog 88 #[.pointer (some ⟨q.bt, 0, none⟩), .int .i32 o, .int .i64 (id : Int)] w2 fun e w' => e = .returned (.int .i64 0) ∧ TrailTo F w2 w' q.bt S.n d (S.L ++ [⟨o, d, id⟩])) := fun w2 h2 => by
            obtain ⟨F, hT, hF⟩ := h2.tr
            exact ⟨F, hF, set_yes w2 hT (by show S.n ≤ 100000; omega) o (id : Int) (by omega) (by omega) he⟩
          have HFIN : Hid (∀ F w2 w3, (∀ k, F k → q.own k = .trail) → E6 w2 b q (nextF S id) d → Ext q q w w2 → TrailTo F w2 w3 q.bt S.n d (S.L ++ [⟨o, d, id⟩]) → ∃ q', E6 w3 b q' (setF (nextF S id) o id) d ∧ Ext q q' w w3 ∧ q'.Wb (plc wrong) = q.Wb (plc wrong)) := fun F w2 w3 hF h2 hX ht => by
            obtain ⟨own', e1, e2⟩ := h2.trailTo hF ht
            have e3 : setF (nextF S id) o id = { nextF S id with L := S.L ++ [⟨o, d, id⟩] } := by unfold setF; rw [hd]; rfl
            exact ⟨_, by rw [e3]; exact e1, hX.trans e2, rfl⟩
          rw [HR.out]
          rw [hv0] at HV tv1
          have HL0 := Lib.hid hl0
          clear hS HSN HT0 HT1 HAL hv1 han hfn he hl0 hv0 hd
          generalize S.cs.length = nc at *
          generalize (clA S.cs id).w0 = v0 at *
          as_aux_lemma =>
          go_enter Tryz.func76, Tryz.ntmps76
          go_wp2_with fail
          refine HV.out.mono ?_
          rintro e w' ⟨rfl, rfl⟩
          go_wp2_with fail
          refine HAn.out.mono ?_
          rintro e w2 ⟨he, hE2, hX2⟩
          rw [HL0.out] at he
          subst he
          obtain ⟨F, hF, hT⟩ := HTS.out w2 hE2
          have g0 := hE2.h0
          have HT := Lib.hid hT
          have HF := Lib.hid (HFIN.out F w2)
          have HF3 := Lib.hid (fun w3 => HF.out w3 hF hE2 hX2)
          clear hE2 hX2 hF hT HTS HFIN HF HAn
          go_wp2_with fail
          refine HT.out.mono ?_
          rintro e w3 ⟨rfl, ht⟩
          have HFF := Lib.hid (HF3.out w3 ht)
          clear ht HF3 HT
          go_wp2_with fail
          go_ret
          exact ⟨rfl, HFF.out⟩
        · have HR : Hid (tellF S id wrong = (nextF S id, 2)) := by unfold Hid; rw [HT1.out, if_neg (by simpa using hl0), if_neg hv0]
          have hfs : (findE S.L (varZ o)).isSome = true := by
            unfold valZ at hv0
            split at hv0
            · rename_i x hx; rw [hx]; rfl
            · exact absurd rfl hv0
          have he : errZ S.n S.L o = 42 := by
            unfold errZ
            rw [if_neg (by simp only [oo.1]; rintro (e | e); cases e; have := oo.2; omega), if_pos hfs]
          have HTS : Hid (∀ w2, E6 w2 b q (nextF S id) d → Calls Tryz.prog 88 #[.pointer (some ⟨q.bt, 0, none⟩), .int .i32 o, .int .i64 (id : Int)] w2 fun e w' => e = .returned (.int .i64 42) ∧ w2 = w') := fun w2 h2 => by
            obtain ⟨F, hT, hF⟩ := h2.tr
            have := set_no w2 hT (by show S.n ≤ 300000; omega) o (id : Int) (by omega) (by omega) (by show errZ S.n S.L o ≠ 0; omega)
            have e2 : errZ (nextF S id).n (nextF S id).L o = 42 := he
            rw [e2] at this
            exact this
          rw [HR.out]
          have HL0 := Lib.hid hl0
          clear hS HSN HT0 HT1 HAL hv1 han hfs he hl0 hv0 hd
          generalize S.cs.length = nc at *
          generalize (clA S.cs id).w0 = v0 at *
          generalize valZ S.L o = vo at *
          as_aux_lemma =>
          go_enter Tryz.func76, Tryz.ntmps76
          go_wp2_with fail
          refine HV.out.mono ?_
          rintro e w' ⟨rfl, rfl⟩
          go_wp2_with fail
          refine HAn.out.mono ?_
          rintro e w2 ⟨he, hE2, hX2⟩
          rw [HL0.out] at he
          subst he
          have g0 := hE2.h0
          have HT := Lib.hid (HTS.out w2 hE2)
          have HE2 := Lib.hid hE2
          have HX2 := Lib.hid hX2
          clear hE2 hX2 HTS HAn
          go_wp2_with fail
          refine HT.out.mono ?_
          rintro e w' ⟨rfl, rfl⟩
          go_wp2_with fail
          go_ret
          exact ⟨rfl, q, HE2.out, HX2.out, rfl⟩
      · have HR : Hid (tellF S id wrong = (watchF (rewatch (nextF S id) id o (anoL S id)) id (anoL S id), 1)) := by unfold Hid; rw [HT1.out, if_pos hl0]
        have hal : anoL S id ∈ (clA S.cs id).ls ∧ anoL S id ≠ wrong ∧ one (anoL S id) = true ∧ varZ (anoL S id) ≤ S.n := by
          rcases HAL.out with e | e
          · exact absurd e hl0
          · exact e
        have tl : (anoL S id != 0) = true := by simpa using hl0
        have hab := (one_iff _).1 hal.2.2.1
        have HP1 : Hid (plc (anoL S id) < (rewatch (nextF S id) id o (anoL S id)).wa.length) := plc_lt hal.2.2 hwa
        have HL1 : Hid ((waA (rewatch (nextF S id) id o (anoL S id)).wa (plc (anoL S id))).length ≤ 90000) := by
          have := hS.wn _ (plc_lt hal.2.2 hwa)
          unfold Hid
          show (waA S.wa (plc (anoL S id))).length ≤ 90000
          omega
        have HPN : Hid (plc wrong ≠ plc (anoL S id)) := fun e => hal.2.1 (plc_inj hw1 hal.2.2.1 e).symm
        have HST : Hid (∀ w2, E6 w2 b q (nextF S id) d → E6 ((w2.setCell ⟨gc, id * 5 + 2, none⟩ (.int .i32 o)).setCell ⟨gc, id * 5 + 2 + 1, none⟩ (.int .i32 (anoL S id))) b q (rewatch (nextF S id) id o (anoL S id)) d ∧ Ext q q w2 ((w2.setCell ⟨gc, id * 5 + 2, none⟩ (.int .i32 o)).setCell ⟨gc, id * 5 + 2 + 1, none⟩ (.int .i32 (anoL S id)))) := fun w2 h2 => h2.setWt HIN.out hA o (anoL S id)
        have HCL : Hid (∀ w2, E6 w2 b q (nextF S id) d → (∃ v, w2.cell? ⟨gc, id * 5 + 2, none⟩ = some (.int .i32 v)) ∧ (∃ v, w2.cell? ⟨gc, id * 5 + 3, none⟩ = some (.int .i32 v)) ∧ w2.frozen? ⟨gc, id * 5 + 2, none⟩ = false ∧ w2.frozen? ⟨gc, id * 5 + 3, none⟩ = false) := fun w2 h2 => by
          obtain ⟨_, _, x2, x3, _, xf⟩ := h2.clCells HIN.out hA
          exact ⟨⟨_, x2⟩, ⟨_, x3⟩, xf _, xf _⟩
        rw [HR.out]
        clear hS HSN HT0 HT1 HAL hv1 han hl0 hal hd
        generalize S.cs.length = nc at *
        generalize (clA S.cs id).w0 = v0 at *
        generalize valZ S.L o = vo at *
        unfold AnoTo at HAn
        generalize anoL S id = l at *
        as_aux_lemma =>
        go_enter Tryz.func76, Tryz.ntmps76
        go_wp2_with fail
        refine HV.out.mono ?_
        rintro e w' ⟨rfl, rfl⟩
        go_wp2_with fail
        refine HAn.out.mono ?_
        rintro e w2 ⟨rfl, hE2, hX2⟩
        obtain ⟨⟨y2, x2⟩, ⟨y3, x3⟩, xf2, xf3⟩ := HCL.out w2 hE2
        have HS1 := Lib.hid (HST.out w2 hE2)
        have HX2 := Lib.hid hX2
        clear hE2 hX2 HST HCL HAn
        go_wp2_with fail
        have l0 : -2147483648 ≤ l := by omega
        have l1 : l ≤ 2147483647 := by omega
        have HH1 := HS1.out.1
        have HQ := ewatch_any HH1 id l l0 l1 HP1.out HL1.out
        refine HQ.mono ?_
        clear HQ HH1
        rintro e w3 ⟨rfl, own3, X3, hE3, hX3⟩
        have HE3 := Lib.hid hE3
        have HX3 := Lib.hid ((HX2.out.trans HS1.out.2).trans hX3)
        clear hE3 hX3 HS1
        go_wp2_with fail
        go_ret
        refine ⟨rfl, ?_⟩
        have HA1 := HE3.out
        have HA2 := HX3.out
        exact ⟨_, HA1, HA2, if_neg HPN.out⟩
    · have tc : ((clA S.cs id).w0 == wrong) = false := by rw [beq_eq_false_iff_ne]; exact hcase
      have ho : otherW (clA S.cs id) wrong = (clA S.cs id).w0 := by unfold otherW; rw [if_neg hcase]
      have hm := m0
      rw [ho] at HT0
      have oo := hls _ hm
      have ob := (one_iff _).1 oo.1
      have HV : Hid (Calls Tryz.prog 36 #[.pointer (some ⟨q.bt, 0, none⟩), .int .i32 (clA S.cs id).w0] w fun e w' => e = .returned (.int .i64 (valZ S.L (clA S.cs id).w0)) ∧ w = w') := by
        obtain ⟨F, gm, cm, ao, co, az, cz, hQ, hO, _⟩ := h.trail
        exact tvalue_nat w hQ hO.pre (by omega) _ (by omega) (by omega)
      have HOX : Hid ((clA S.cs id).w0 ∈ (clA S.cs id).ls) := hm
      clear h hrow hw m0 m1 mw ho hm hcase
      obtain ⟨o, hoe⟩ : ∃ o, o = (clA S.cs id).w0 := ⟨_, rfl⟩
      rw [← hoe] at HT0 oo ob HV HOX c2 tc
      clear hoe
      unfold TellTo
      by_cases hv1 : valZ S.L o = 1
      · have HR : Hid (tellF S id wrong = (S, 0)) := by unfold Hid; rw [HT0.out, if_pos hv1]
        rw [HR.out]
        rw [hv1] at HV
        clear hS HSN HAn HT0 HAL hv1 han
        generalize S.cs.length = nc at *
        generalize (clA S.cs id).w1 = v0 at *
        as_aux_lemma =>
        go_enter Tryz.func76, Tryz.ntmps76
        go_wp2_with fail
        refine HV.out.mono ?_
        rintro e w' ⟨rfl, rfl⟩
        go_wp2_with fail
        go_ret
        exact ⟨rfl, q, HE.out, Ext.refl _ _, rfl⟩
      have tv1 : (valZ S.L o == 1) = false := by rw [beq_eq_false_iff_ne]; exact hv1
      have HT1 : Hid (tellF S id wrong = if anoL S id ≠ 0 then (watchF (rewatch (nextF S id) id o (anoL S id)) id (anoL S id), 1) else if valZ S.L o = 0 then (setF (nextF S id) o id, 0) else (nextF S id, 2)) := by unfold Hid; rw [HT0.out, if_neg hv1]
      by_cases hl0 : anoL S id = 0
      · by_cases hv0 : valZ S.L o = 0
        · have HR : Hid (tellF S id wrong = (setF (nextF S id) o id, 0)) := by unfold Hid; rw [HT1.out, if_neg (by simpa using hl0), if_pos hv0]
          have hfn := val_none hv0
          have he : errZ S.n S.L o = 0 := by
            unfold errZ
            rw [if_neg (by simp only [oo.1]; rintro (e | e); cases e; have := oo.2; omega), if_neg (by rw [hfn]; simp)]
          have HTS : Hid (∀ w2, E6 w2 b q (nextF S id) d → ∃ F, (∀ k, F k → q.own k = .trail) ∧ Calls Tryz.prog 88 #[.pointer (some ⟨q.bt, 0, none⟩), .int .i32 o, .int .i64 (id : Int)] w2 fun e w' => e = .returned (.int .i64 0) ∧ TrailTo F w2 w' q.bt S.n d (S.L ++ [⟨o, d, id⟩])) := fun w2 h2 => by
            obtain ⟨F, hT, hF⟩ := h2.tr
            exact ⟨F, hF, set_yes w2 hT (by show S.n ≤ 100000; omega) o (id : Int) (by omega) (by omega) he⟩
          have HFIN : Hid (∀ F w2 w3, (∀ k, F k → q.own k = .trail) → E6 w2 b q (nextF S id) d → Ext q q w w2 → TrailTo F w2 w3 q.bt S.n d (S.L ++ [⟨o, d, id⟩]) → ∃ q', E6 w3 b q' (setF (nextF S id) o id) d ∧ Ext q q' w w3 ∧ q'.Wb (plc wrong) = q.Wb (plc wrong)) := fun F w2 w3 hF h2 hX ht => by
            obtain ⟨own', e1, e2⟩ := h2.trailTo hF ht
            have e3 : setF (nextF S id) o id = { nextF S id with L := S.L ++ [⟨o, d, id⟩] } := by unfold setF; rw [hd]; rfl
            exact ⟨_, by rw [e3]; exact e1, hX.trans e2, rfl⟩
          rw [HR.out]
          rw [hv0] at HV tv1
          have HL0 := Lib.hid hl0
          clear hS HSN HT0 HT1 HAL hv1 han hfn he hl0 hv0 hd
          generalize S.cs.length = nc at *
          generalize (clA S.cs id).w1 = v0 at *
          as_aux_lemma =>
          go_enter Tryz.func76, Tryz.ntmps76
          go_wp2_with fail
          refine HV.out.mono ?_
          rintro e w' ⟨rfl, rfl⟩
          go_wp2_with fail
          refine HAn.out.mono ?_
          rintro e w2 ⟨he, hE2, hX2⟩
          rw [HL0.out] at he
          subst he
          obtain ⟨F, hF, hT⟩ := HTS.out w2 hE2
          have g0 := hE2.h0
          have HT := Lib.hid hT
          have HF := Lib.hid (HFIN.out F w2)
          have HF3 := Lib.hid (fun w3 => HF.out w3 hF hE2 hX2)
          clear hE2 hX2 hF hT HTS HFIN HF HAn
          go_wp2_with fail
          refine HT.out.mono ?_
          rintro e w3 ⟨rfl, ht⟩
          have HFF := Lib.hid (HF3.out w3 ht)
          clear ht HF3 HT
          go_wp2_with fail
          go_ret
          exact ⟨rfl, HFF.out⟩
        · have HR : Hid (tellF S id wrong = (nextF S id, 2)) := by unfold Hid; rw [HT1.out, if_neg (by simpa using hl0), if_neg hv0]
          have hfs : (findE S.L (varZ o)).isSome = true := by
            unfold valZ at hv0
            split at hv0
            · rename_i x hx; rw [hx]; rfl
            · exact absurd rfl hv0
          have he : errZ S.n S.L o = 42 := by
            unfold errZ
            rw [if_neg (by simp only [oo.1]; rintro (e | e); cases e; have := oo.2; omega), if_pos hfs]
          have HTS : Hid (∀ w2, E6 w2 b q (nextF S id) d → Calls Tryz.prog 88 #[.pointer (some ⟨q.bt, 0, none⟩), .int .i32 o, .int .i64 (id : Int)] w2 fun e w' => e = .returned (.int .i64 42) ∧ w2 = w') := fun w2 h2 => by
            obtain ⟨F, hT, hF⟩ := h2.tr
            have := set_no w2 hT (by show S.n ≤ 300000; omega) o (id : Int) (by omega) (by omega) (by show errZ S.n S.L o ≠ 0; omega)
            have e2 : errZ (nextF S id).n (nextF S id).L o = 42 := he
            rw [e2] at this
            exact this
          rw [HR.out]
          have HL0 := Lib.hid hl0
          clear hS HSN HT0 HT1 HAL hv1 han hfs he hl0 hv0 hd
          generalize S.cs.length = nc at *
          generalize (clA S.cs id).w1 = v0 at *
          generalize valZ S.L o = vo at *
          as_aux_lemma =>
          go_enter Tryz.func76, Tryz.ntmps76
          go_wp2_with fail
          refine HV.out.mono ?_
          rintro e w' ⟨rfl, rfl⟩
          go_wp2_with fail
          refine HAn.out.mono ?_
          rintro e w2 ⟨he, hE2, hX2⟩
          rw [HL0.out] at he
          subst he
          have g0 := hE2.h0
          have HT := Lib.hid (HTS.out w2 hE2)
          have HE2 := Lib.hid hE2
          have HX2 := Lib.hid hX2
          clear hE2 hX2 HTS HAn
          go_wp2_with fail
          refine HT.out.mono ?_
          rintro e w' ⟨rfl, rfl⟩
          go_wp2_with fail
          go_ret
          exact ⟨rfl, q, HE2.out, HX2.out, rfl⟩
      · have HR : Hid (tellF S id wrong = (watchF (rewatch (nextF S id) id o (anoL S id)) id (anoL S id), 1)) := by unfold Hid; rw [HT1.out, if_pos hl0]
        have hal : anoL S id ∈ (clA S.cs id).ls ∧ anoL S id ≠ wrong ∧ one (anoL S id) = true ∧ varZ (anoL S id) ≤ S.n := by
          rcases HAL.out with e | e
          · exact absurd e hl0
          · exact e
        have tl : (anoL S id != 0) = true := by simpa using hl0
        have hab := (one_iff _).1 hal.2.2.1
        have HP1 : Hid (plc (anoL S id) < (rewatch (nextF S id) id o (anoL S id)).wa.length) := plc_lt hal.2.2 hwa
        have HL1 : Hid ((waA (rewatch (nextF S id) id o (anoL S id)).wa (plc (anoL S id))).length ≤ 90000) := by
          have := hS.wn _ (plc_lt hal.2.2 hwa)
          unfold Hid
          show (waA S.wa (plc (anoL S id))).length ≤ 90000
          omega
        have HPN : Hid (plc wrong ≠ plc (anoL S id)) := fun e => hal.2.1 (plc_inj hw1 hal.2.2.1 e).symm
        have HST : Hid (∀ w2, E6 w2 b q (nextF S id) d → E6 ((w2.setCell ⟨gc, id * 5 + 2, none⟩ (.int .i32 o)).setCell ⟨gc, id * 5 + 2 + 1, none⟩ (.int .i32 (anoL S id))) b q (rewatch (nextF S id) id o (anoL S id)) d ∧ Ext q q w2 ((w2.setCell ⟨gc, id * 5 + 2, none⟩ (.int .i32 o)).setCell ⟨gc, id * 5 + 2 + 1, none⟩ (.int .i32 (anoL S id)))) := fun w2 h2 => h2.setWt HIN.out hA o (anoL S id)
        have HCL : Hid (∀ w2, E6 w2 b q (nextF S id) d → (∃ v, w2.cell? ⟨gc, id * 5 + 2, none⟩ = some (.int .i32 v)) ∧ (∃ v, w2.cell? ⟨gc, id * 5 + 3, none⟩ = some (.int .i32 v)) ∧ w2.frozen? ⟨gc, id * 5 + 2, none⟩ = false ∧ w2.frozen? ⟨gc, id * 5 + 3, none⟩ = false) := fun w2 h2 => by
          obtain ⟨_, _, x2, x3, _, xf⟩ := h2.clCells HIN.out hA
          exact ⟨⟨_, x2⟩, ⟨_, x3⟩, xf _, xf _⟩
        rw [HR.out]
        clear hS HSN HT0 HT1 HAL hv1 han hl0 hal hd
        generalize S.cs.length = nc at *
        generalize (clA S.cs id).w1 = v0 at *
        generalize valZ S.L o = vo at *
        unfold AnoTo at HAn
        generalize anoL S id = l at *
        as_aux_lemma =>
        go_enter Tryz.func76, Tryz.ntmps76
        go_wp2_with fail
        refine HV.out.mono ?_
        rintro e w' ⟨rfl, rfl⟩
        go_wp2_with fail
        refine HAn.out.mono ?_
        rintro e w2 ⟨rfl, hE2, hX2⟩
        obtain ⟨⟨y2, x2⟩, ⟨y3, x3⟩, xf2, xf3⟩ := HCL.out w2 hE2
        have HS1 := Lib.hid (HST.out w2 hE2)
        have HX2 := Lib.hid hX2
        clear hE2 hX2 HST HCL HAn
        go_wp2_with fail
        have l0 : -2147483648 ≤ l := by omega
        have l1 : l ≤ 2147483647 := by omega
        have HH1 := HS1.out.1
        have HQ := ewatch_any HH1 id l l0 l1 HP1.out HL1.out
        refine HQ.mono ?_
        clear HQ HH1
        rintro e w3 ⟨rfl, own3, X3, hE3, hX3⟩
        have HE3 := Lib.hid hE3
        have HX3 := Lib.hid ((HX2.out.trans HS1.out.2).trans hX3)
        clear hE3 hX3 HS1
        go_wp2_with fail
        go_ret
        refine ⟨rfl, ?_⟩
        have HA1 := HE3.out
        have HA2 := HX3.out
        exact ⟨_, HA1, HA2, if_neg HPN.out⟩
end Go.Proofs.YtkckodpfhlpkgaaGreat
