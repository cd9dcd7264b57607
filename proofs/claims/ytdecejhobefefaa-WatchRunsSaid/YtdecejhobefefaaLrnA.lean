/- The contract of a draft's add. -/
import Derived.Test.YtdecejhobefefaaLrnD
namespace Go.Proofs.Ytdecejhobefefaa
open Go.RowKit LitM TrailM EngM

section
variable {S : Eng}
theorem cntM_put (t : Nat) (M : List Int) (l : Int) : cntM S t (M ++ [l]) = cntM S t M + if lvl S l = (t : Int) then 1 else 0 := by
  unfold cntM
  rw [List.filter_append, List.length_append]
  congr 1
  by_cases e : lvl S l = (t : Int)
  · simp [e]
  · simp [e]
theorem putM_len (M : List Int) (l : Int) : (putM S M l).length ≤ M.length + 1 := by
  unfold putM
  split
  · omega
  · simp
theorem addM_len : ∀ (xs M : List Int), (addM S M xs).length ≤ M.length + xs.length
  | [], M => by simp [addM]
  | x :: xs, M => by
    have h1 := addM_len xs (putM S M x)
    have h2 := putM_len (S := S) M x
    have e : addM S M (x :: xs) = addM S (putM S M x) xs := rfl
    rw [e, List.length_cons]; omega
theorem cntM_le (t : Nat) (M : List Int) : cntM S t M ≤ M.length := List.length_filter_le _ _
theorem addM_snoc (M xs : List Int) {j : Nat} {l : Int} (h : xs[j]? = some l) : addM S M (xs.take (j + 1)) = putM S (addM S M (xs.take j)) l := by
  unfold addM
  rw [List.take_add_one, h, List.foldl_append]; rfl
end
theorem SlV.kept {T : TypeId} {k n c : Nat} {w w' : World} {A : Option Addr} {f : Nat → Value} {F : Nat → Prop} (h : SlV T k w A n c f) (hk : Kf F w w') (hn : ∀ j, onB A j → ¬ F j) : SlV T k w' A n c f := h.same fun j hj => hk.block j (h.lt j hj) (hn j hj)
/-- What add leaves. -/
def DAdd (w : World) (b bd bm n : Nat) (S : Eng) (t : Nat) (M xs : List Int) (e : Ending) (w' : World) : Prop :=
  e = .returned (.tuple #[]) ∧ DrB w' b bd bm t (cntM S t (addM S M xs) : Nat) ∧ MapZ w' S bm (n + xs.length) (addM S M xs) ∧ Kf (fun k => k = bd ∨ k = bm) w w'
set_option maxHeartbeats 6400000 in
set_option maxRecDepth 100000 in
theorem dadd_any {w : World} {b bd bm n t : Nat} {q : Pm} {S : Eng} {d : Nat} {M xs : List Int} {A : Option Addr} {m c : Nat} (h : E6 w b q S d) (hn : S.n ≤ 90000) (o1 : q.own bd = .no) (o2 : q.own bm = .no)
    (hD : DrB w b bd bm t (cntM S t M : Nat)) (hM : MapZ w S bm n M) (hxs : SlV 43 1 w A m c (lsC xs)) (hl : xs.length = m) (h32 : In32 xs) (hA : ∀ j, onB A j → j ≠ bd ∧ j ≠ bm) (hm : m ≤ 100000) (hnm : n ≤ 1000000000000) (hML : M.length ≤ 1000000) :
    Calls Try.prog 85 #[.pointer (some ⟨bd, 0, none⟩), .slice A m c] w (DAdd w b bd bm n S t M xs) := by
  have HE := Lib.hid h
  have HS := Lib.hid hxs
  have HA := Lib.hid hA
  have HL := Lib.hid hl
  have H32 := Lib.hid h32
  have HO := Lib.hid (show _ ∧ _ from ⟨o1, o2⟩)
  have HN := Lib.hid hn
  have HD0 := Lib.hid hD
  have HM0 := Lib.hid hM
  unfold DAdd
  rw [hl]
  clear h hxs hA hl h32 o1 o2 hD hM hn
  obtain ⟨w0, rfl⟩ : ∃ w0 : World, w0 = w := ⟨_, rfl⟩
  go_enter Try.func85, Try.ntmps85
  go_wp2_with fail
  go_loopw [9] (fun v wr => ∃ (j n' : Nat) (M' : List Int), v = .int .i64 (j : Int) ∧ j ≤ m ∧ n' ≤ n + j ∧ M'.length ≤ 1000000 + j ∧ Hid (M' = addM S M (xs.take j)) ∧ Hid (DrB wr b bd bm t (cntM S t M' : Nat)) ∧ Hid (MapZ wr S bm n' M') ∧ Hid (Kf (fun k => k = bd ∨ k = bm) w0 wr)) (fun v _ => m - (intOf v).toNat)
  case atStart => exact ⟨0, n, M, rfl, by omega, by omega, by omega, Lib.hid rfl, HD0, HM0, Lib.hid (Kf.refl _ _)⟩
  case round =>
    obtain ⟨j, n', M', rfl, hj, hn', hml, hM', hD, hM, hK⟩ := hrel
    by_cases hlt : j < m
    · have tj : decide (j < m) = true := decide_eq_true hlt
      have tj2 : decide ((j : Int) < (m : Int)) = true := decide_eq_true (by omega)
      have hno : ∀ k, q.own k ≠ .no → ¬ (k = bd ∨ k = bm) := fun k hk e => by rcases e with e | e <;> subst e <;> first | exact hk HO.out.1 | exact hk HO.out.2
      have hEr := HE.out.kept hK.out hno
      have HEr := Lib.hid hEr
      have hSr := HS.out.kept hK.out (fun i hi e => by have := HA.out i hi; rcases e with e | e <;> omega)
      obtain ⟨g, rfl, hrow⟩ := hSr.row (by omega)
      have hcm : wr.cell? ⟨g, j, none⟩ = some (.int .i32 (xs.getD j 0)) := hrow.cell (show j < m * 1 by omega)
      obtain ⟨l0, l1⟩ := H32.out j
      have hbd := hrow.bd
      obtain ⟨hbd1, hbd2⟩ := hbd
      have hxj : xs[j]? = some (xs.getD j 0) := by
        have := HL.out
        rw [List.getD, List.getElem?_eq_getElem (by omega)]; rfl
      have HSN : Hid (addM S M (xs.take (j + 1)) = putM S M' (xs.getD j 0)) := by unfold Hid; rw [addM_snoc M xs hxj, ← hM'.out]
      clear hEr hSr hrow hxj
      generalize xs.getD j 0 = l at *
      have HLv := Lib.hid (dlevel_any HEr.out hD.out.c0 HN.out l l0 l1)
      have h0 := HEr.out.h0
      have c0 := hD.out.c0
      have c1 := hD.out.c1
      have c2 := hD.out.c2
      have c3 := hD.out.c3
      have f3 := hD.out.free 3
      have hlb : -1 ≤ lvl S l ∧ lvl S l ≤ 90000 := by
        have h2 := lev_le HEr.out.ok (varZ l)
        have h3 := HEr.out.ok.dle
        have h4 := HEr.out.ok.len
        have h5 := HN.out
        refine ⟨?_, by unfold lvl; omega⟩
        unfold lvl levZ
        split <;> omega
      have HV : Hid (∀ r, Calls Try.prog 17 #[.pointer (some ⟨q.bt, 0, none⟩), .int .i32 l] (wr.drewN r) fun e w' => e = .returned (.int .i64 (valZ S.L l)) ∧ w' = wr.drewN r) := fun r => by
        obtain ⟨F, gm, cm, ao, co, az, cz, hQ, hO, _⟩ := (HEr.out.drewN r).trail
        exact (tvalue_nat (wr.drewN r) hQ hO.pre (by have := HN.out; omega) l l0 l1).mono fun e w' ⟨h1, h2⟩ => ⟨h1, h2.symm⟩
      have HH : Hid (∀ r, Calls Try.prog 100 #[.pointer (some ⟨bd, 0, none⟩), .int .i32 l] (wr.drewN r) fun e w' => e = .returned (.bool (decide (l ∈ M'))) ∧ w' = wr.drewN r) := fun r =>
        (dhas_any (hD.out.same (w' := wr.drewN r) rfl) (hM.out.same rfl) l l0 l1).mono fun e w' ⟨h1, h2⟩ => ⟨h1, h2.symm⟩
      have HDr : Hid (∀ r, DrB (wr.drewN r) b bd bm t (cntM S t M' : Nat) ∧ MapZ (wr.drewN r) S bm n' M' ∧ Kf (fun k => k = bd ∨ k = bm) w0 (wr.drewN r)) := fun r => ⟨hD.out.same rfl, hM.out.same rfl, hK.out.drewN r⟩
      have hcl : cntM S t M' ≤ 1100000 := by have := cntM_le (S := S) t M'; omega
      by_cases hz : lvl S l = 0
      · have tz : (lvl S l == 0) = true := by simpa using hz
        have HP : Hid (putM S M' l = M') := by unfold Hid putM; rw [if_pos (.inl hz)]
        clear hD hM hK HV HH HEr hcl
        generalize lvl S l = z at *
        go_wp2_with fail
        refine HLv.out.mono ?_
        rintro e w' ⟨rfl, r, rfl⟩
        go_wp2_with fail
        go_roundw
        case rel => exact ⟨j + 1, n', M', by go_num, by omega, by omega, by omega, by unfold Hid; rw [HSN.out, HP.out], (HDr.out r).1, (HDr.out r).2.1, (HDr.out r).2.2⟩
        case measure => simp [intOf]; omega
      · have tz : (lvl S l == 0) = false := by simpa using hz
        by_cases hv : valZ S.L l = -1
        · by_cases hin : l ∈ M'
          · have ti : decide (l ∈ M') = true := decide_eq_true hin
            have HP : Hid (putM S M' l = M') := by unfold Hid putM; rw [if_pos (.inr (.inr hin))]
            rw [hv] at HV
            rw [ti] at HH
            clear hD hM hK HEr hcl hin hv ti
            generalize lvl S l = z at *
            go_wp2_with fail
            refine HLv.out.mono ?_
            rintro e w' ⟨rfl, r, rfl⟩
            go_wp2_with fail
            refine (HV.out r).mono ?_
            rintro e w' ⟨rfl, rfl⟩
            go_wp2_with fail
            refine (HH.out r).mono ?_
            rintro e w' ⟨rfl, rfl⟩
            go_wp2_with fail
            go_roundw
            case rel => exact ⟨j + 1, n', M', by go_num, by omega, by omega, by omega, by unfold Hid; rw [HSN.out, HP.out], (HDr.out r).1, (HDr.out r).2.1, (HDr.out r).2.2⟩
            case measure => simp [intOf]; omega
          · have ti : decide (l ∈ M') = false := decide_eq_false hin
            have HP : Hid (putM S M' l = M' ++ [l]) := by unfold Hid putM; rw [if_neg (by rintro (e | e | e) <;> contradiction)]
            have HC : Hid (cntM S t (M' ++ [l]) = cntM S t M' + if lvl S l = (t : Int) then 1 else 0) := cntM_put t M' l
            rw [hv] at HV
            rw [ti] at HH
            have HKY := Lib.hid (wf32 l0 l1)
            have HVL : Hid (plainElem (H := Unit) Try.prog 3 (.int .i64 (lvl S l)) = some (.lit (.int .i64 (lvl S l)), [])) := plainElem_int Try.underlying3 (wf64 (by omega) (by omega))
            have HUP : Hid (∀ r, ∃ D : DataW Unit, (wr.drewN r).ownsMap Try.prog 43 (plainElem Try.prog 3) bm n' D ∧ ∀ w1 : World, w1.ownsMap Try.prog 43 (plainElem Try.prog 3) bm (n' + 1) (D.put (.int .i32 l) (.lit (.int .i64 (lvl S l)))) → (wr.drewN r).grownBy w1 (some bm) → MapZ w1 S bm (n' + 1) (M' ++ [l]) ∧ DrB w1 b bd bm t (cntM S t M' : Nat) ∧ Kf (fun k => k = bd ∨ k = bm) w0 w1) := fun r => by
              obtain ⟨d1, d2, d3⟩ := HDr.out r
              have hne := d1.ne d2
              have d2' := d2
              obtain ⟨D, hown, hk⟩ := d2
              refine ⟨D, hown, fun w1 x1 x2 => ⟨⟨_, x1, hk.put hown.isMap HKY.out⟩, d1.same (x2.block bd d1.lt (fun e => hne (by injection e))), d3.grown x2 (fun i e => .inl (.inr (by injection e with e; exact e.symm)))⟩⟩
            clear hD hM hK HEr hin hv ti HDr
            by_cases ht : lvl S l = (t : Int)
            · have tt : ((t : Int) == (t : Int)) = true := by simp
              rw [if_pos ht] at HC
              rw [ht] at tz HLv HVL HUP hlb hz
              clear ht
              go_wp2_with fail
              refine HLv.out.mono ?_
              rintro e w' ⟨rfl, r, rfl⟩
              go_wp2_with fail
              refine (HV.out r).mono ?_
              rintro e w' ⟨rfl, rfl⟩
              go_wp2_with fail
              refine (HH.out r).mono ?_
              rintro e w' ⟨rfl, rfl⟩
              obtain ⟨D, hown, hnext⟩ := HUP.out r
              have HNX := Lib.hid hnext
              clear hnext HUP
              go_wp2_with (at_mapUpdate; refine wpList_mapUpdate_own _ rfl _ _ _ 122 rfl 43 3 kd Try.underlying122 _ bm n' D rfl hown (by unfold maxLen; omega) _ _ _ rfl rfl (key32 HKY.out) _ [] HVL.out ?_)
              intro w1 hown1 hgrow1
              obtain ⟨n1, n2, n3⟩ := HNX.out w1 hown1 hgrow1
              have HMP := Lib.hid n1
              have HDP := Lib.hid n2
              have HKP := Lib.hid n3
              have k2 := n2.c2
              have k3 := n2.c3
              have kf := n2.free 3
              clear n1 n2 n3 hown1 hgrow1 HNX hown c0 c1 c2 c3 f3
              go_wp2_with fail
              go_roundw
              case rel =>
                have hne := HDP.out.ne HMP.out
                exact ⟨j + 1, n' + 1, M' ++ [l], by go_num, by omega, by omega, by simp; omega, by unfold Hid; rw [HSN.out, HP.out], by unfold Hid; rw [HC.out]; exact HDP.out.setLeft _, HMP.out.same (Below.heap_setCell _ _ _ _ (fun e => hne e.symm)), HKP.out.set (.inl (.inl rfl)) _⟩
              case measure => simp [intOf]; omega
            · have tt : (lvl S l == (t : Int)) = false := by simpa using ht
              rw [if_neg ht] at HC
              clear ht
              generalize lvl S l = z at *
              go_wp2_with fail
              refine HLv.out.mono ?_
              rintro e w' ⟨rfl, r, rfl⟩
              go_wp2_with fail
              refine (HV.out r).mono ?_
              rintro e w' ⟨rfl, rfl⟩
              go_wp2_with fail
              refine (HH.out r).mono ?_
              rintro e w' ⟨rfl, rfl⟩
              obtain ⟨D, hown, hnext⟩ := HUP.out r
              have HNX := Lib.hid hnext
              clear hnext HUP
              go_wp2_with (at_mapUpdate; refine wpList_mapUpdate_own _ rfl _ _ _ 122 rfl 43 3 kd Try.underlying122 _ bm n' D rfl hown (by unfold maxLen; omega) _ _ _ rfl rfl (key32 HKY.out) _ [] HVL.out ?_)
              intro w1 hown1 hgrow1
              obtain ⟨n1, n2, n3⟩ := HNX.out w1 hown1 hgrow1
              have HMP := Lib.hid n1
              have HDP := Lib.hid n2
              have HKP := Lib.hid n3
              have k2 := n2.c2
              clear n1 n2 n3 hown1 hgrow1 HNX hown c0 c1 c2 c3 f3
              go_wp2_with fail
              go_roundw
              case rel => exact ⟨j + 1, n' + 1, M' ++ [l], by go_num, by omega, by omega, by simp; omega, by unfold Hid; rw [HSN.out, HP.out], by unfold Hid; rw [HC.out]; exact HDP.out, HMP, HKP⟩
              case measure => simp [intOf]; omega
        · have tv : (valZ S.L l != -1) = true := by simpa using hv
          have HP : Hid (putM S M' l = M') := by unfold Hid putM; rw [if_pos (.inr (.inl hv))]
          clear hD hM hK HH HEr hcl hv
          generalize lvl S l = z at *
          generalize valZ S.L l = vv at *
          go_wp2_with fail
          refine HLv.out.mono ?_
          rintro e w' ⟨rfl, r, rfl⟩
          go_wp2_with fail
          refine (HV.out r).mono ?_
          rintro e w' ⟨rfl, rfl⟩
          go_wp2_with fail
          go_roundw
          case rel => exact ⟨j + 1, n', M', by go_num, by omega, by omega, by omega, by unfold Hid; rw [HSN.out, HP.out], (HDr.out r).1, (HDr.out r).2.1, (HDr.out r).2.2⟩
          case measure => simp [intOf]; omega
    · have tj : decide (j < m) = false := decide_eq_false hlt
      have tj2 : decide ((j : Int) < (m : Int)) = false := decide_eq_false (by omega)
      obtain rfl : j = m := by omega
      have hfull : xs.take j = xs := List.take_of_length_le (by have := HL.out; omega)
      rw [hfull] at hM'
      go_wp2_with fail
      go_end0
      exact ⟨rfl, by rw [← hM'.out]; exact hD.out, by rw [← hM'.out]; exact hM.out.mono hn', hK.out⟩
end Go.Proofs.Ytdecejhobefefaa
