/- A circuit's contracts: value, truth, Eval, Cone. -/
import Derived.Test.YtmiifhclcknhdaaGcoa
namespace Go.Proofs.Ytmiifhclcknhdaa
open Go.RowKit GatM

theorem insL_app (a : Gs) : ∀ t : Gs, ∃ u, insL (a ++ t) = insL a ++ u := by
  intro t
  induction t generalizing a with
  | nil => exact ⟨[], by simp⟩
  | cons x t ih =>
    obtain ⟨u, hu⟩ := ih (a ++ [x])
    rw [List.append_assoc] at hu
    refine ⟨_, (show insL (a ++ x :: t) = _ from hu).trans (by rw [insL_snoc, List.append_assoc])⟩
theorem ins_at {gs : Gs} {i : Nat} (hi : i < gs.length) (h0 : i ≠ 0) (he : getG gs i = (0, 0)) : plcG gs i < (insL gs).length ∧ (insL gs).getD (plcG gs i) 0 = 2 * i := by
  have ht : gs.take (i + 1) = gs.take i ++ [(0, 0)] := by
    rw [List.take_succ_eq_append_getElem hi]
    have : gs[i] = getG gs i := by unfold getG; simp [List.getD, List.getElem?_eq_getElem hi]
    rw [this, he]
  obtain ⟨u, hu⟩ := insL_app (gs.take (i + 1)) (gs.drop (i + 1))
  rw [List.take_append_drop, ht, insL_snoc] at hu
  have hl : (gs.take i).length = i := by rw [List.length_take]; omega
  rw [if_pos ⟨by omega, rfl⟩, hl] at hu
  unfold plcG
  rw [hu]
  refine ⟨by simp, ?_⟩
  rw [List.getD, List.append_assoc, List.getElem?_append_right (Nat.le_refl _)]
  simp
theorem ins_uniq {gs : Gs} {j k : Nat} (hj : j < (insL gs).length) (hk : k < (insL gs).length) (e : (insL gs).getD j 0 = (insL gs).getD k 0) : j = k := by
  have hs := List.pairwise_iff_getElem.1 (insL_sorted gs)
  rw [nget_lt hj, nget_lt hk] at e
  rcases Nat.lt_trichotomy j k with h | h | h
  · have := hs j k hj hk h; omega
  · exact h
  · have := hs k j hk hj h; omega
/-- The slice with address A and length n holds the truth values bs, in a block below B. -/
structure RdO (w : World) (B : Nat) (A : Option Addr) (n : Nat) (bs : List Bool) : Prop where
  len : bs.length = n
  at_ : 0 < n → ∃ b o, A = some ⟨b, o, none⟩ ∧ b < B ∧ ∀ j, j < n → w.cell? ⟨b, o + j, none⟩ = some (.bool (bs.getD j false))
section
variable {w w' : World} {B n : Nat} {A : Option Addr} {bs : List Bool}
theorem RdO.nil : RdO w B A 0 [] := ⟨rfl, fun h => absurd h (by omega)⟩
theorem RdO.get (h : RdO w B A n bs) {j : Nat} (hj : j < n) : ∃ b o, A = some ⟨b, o, none⟩ ∧ b < B ∧ w.cell? ⟨b, o + j, none⟩ = some (.bool (bs.getD j false)) := by
  obtain ⟨b, o, e, hb, hc⟩ := h.at_ (by omega)
  exact ⟨b, o, e, hb, hc j hj⟩
theorem RdO.keep (h : RdO w B A n bs) (hk : ∀ p : Addr, p.block < B → w'.cell? p = w.cell? p) : RdO w' B A n bs :=
  ⟨h.len, fun hn => by
    obtain ⟨b, o, e, hb, hc⟩ := h.at_ hn
    exact ⟨b, o, e, hb, fun j hj => (hk ⟨b, o + j, none⟩ hb).trans (hc j hj)⟩⟩
theorem RdO.more {B' : Nat} (h : RdO w B A n bs) (hB : B ≤ B') : RdO w B' A n bs :=
  ⟨h.len, fun hn => by
    obtain ⟨b, o, e, hb, hc⟩ := h.at_ hn
    exact ⟨b, o, e, by omega, hc⟩⟩
theorem RdO.belo (h : RdO w w.heap.size A n bs) (hb : Below w.heap.size w w') : RdO w' w'.heap.size A n bs := (h.keep fun _ hp => hb.cell hp).more hb.size
end
set_option maxHeartbeats 1600000 in
set_option maxRecDepth 100000 in
theorem gvalue_any {w : World} {c : GrC} {gs mp : Gs} (h : GrAt w c gs (insL gs) mp) (hn : gs.length ≤ 90000) (V : Option Addr) (nv cv : Nat) (bs : List Bool) (hv : RdO w w.heap.size V nv bs) (i : Nat) (hi : i < gs.length) (h0 : i ≠ 0) (he : getG gs i = (0, 0)) :
    Calls Try.prog 45 #[.pointer (some ⟨c.bg, 0, none⟩), .slice V nv cv, .int .i64 (i : Int)] w fun e w' => e = .returned (.bool (inV gs bs i)) ∧ w = w' := by
  obtain ⟨_, c1, _, _⟩ := h.cells
  have hle := insL_len gs
  have hbs := ebs_any c.Ai (insL gs).length c.ci (insL gs) (2 * i) w h.ia.rdn (insL_sorted gs) (by omega)
  rw [show ((2 * i : Nat) : Int) = 2 * (i : Int) by omega] at hbs
  have hmem : 2 * i ∈ insL gs := insL_mem.2 ⟨i, rfl, hi, h0, he⟩
  obtain ⟨p1, p2⟩ := ins_at hi h0 he
  have HBS : Hid (Calls Try.prog 54 #[.slice c.Ai (insL gs).length c.ci, .int .u32 (2 * (i : Int))] w fun e w' => e = .returned (.tuple #[.int .i64 ((plcG gs i : Nat) : Int), .bool true]) ∧ w = w') := hbs.mono fun e w' ⟨k, h1, h2, h3⟩ => by
    obtain ⟨k1, k2⟩ := h2 hmem
    have : k = plcG gs i := ins_uniq k1 p1 (by rw [k2, p2])
    rw [h1, decide_eq_true hmem, this]
    exact ⟨rfl, h3⟩
  have HIV : Hid (inV gs bs i = bs.getD (plcG gs i) false) := rfl
  generalize plcG gs i = q at *
  generalize (insL gs).length = li at *
  clear h hbs hmem p1 p2 hle
  by_cases hq : q < nv
  · have tq : decide ((q : Int) < (nv : Int)) = true := decide_eq_true (by omega)
    have tq2 : decide (q < nv) = true := decide_eq_true hq
    have tq3 : decide ((nv : Int) ≤ (q : Int)) = false := decide_eq_false (by omega)
    obtain ⟨b, o, rfl, hb, hc⟩ := hv.get hq
    generalize bs.getD q false = x at *
    clear hv
    go_enter Try.func45, Try.ntmps45
    go_wp2_with fail
    refine HBS.out.mono ?_
    rintro e w' ⟨rfl, rfl⟩
    go_wp2_with fail
    go_ret
    exact ⟨gret_bool HIV.out.symm, rfl⟩
  · have tq : decide ((q : Int) < (nv : Int)) = false := decide_eq_false (by omega)
    have tq2 : decide (q < nv) = false := decide_eq_false hq
    have HX : Hid (bs.getD q false = false) := by
      unfold Hid; rw [List.getD, List.getElem?_eq_none (by have := hv.len; omega)]; rfl
    clear hv
    go_enter Try.func45, Try.ntmps45
    go_wp2_with fail
    refine HBS.out.mono ?_
    rintro e w' ⟨rfl, rfl⟩
    go_wp2_with fail
    go_ret
    exact ⟨gret_bool (by rw [HIV.out, HX.out]), rfl⟩
/-- Where the truth of a cone's gates has come to. -/
def TrAt (w : World) (gm nb : Nat) (bs : List Bool) (gs : Gs) (D : List Nat) (k : Nat) (wr : World) : Prop :=
  ∃ m, m.gm = gm ∧ m.nb = nb ∧ MkAt wr m (truSt bs gs D k) ∧ (∀ k, m.own k → w.heap.size ≤ k) ∧ Below w.heap.size w wr
theorem TrAt.below {w wr w3 : World} {gm nb k : Nat} {bs : List Bool} {gs : Gs} {D : List Nat} (h : TrAt w gm nb bs gs D k wr) (hb : Below wr.heap.size wr w3) : TrAt w gm nb bs gs D k w3 := by
  obtain ⟨m, h1, h2, h3, h4, h5⟩ := h
  exact ⟨m, h1, h2, h3.below hb, h4, h5.trans (hb.mono h5.size)⟩
theorem TrAt.skip {w wr : World} {gm nb k : Nat} {bs : List Bool} {gs : Gs} {D : List Nat} (h : TrAt w gm nb bs gs D k wr) (hk : k < D.length) (ht : tru bs gs (D.getD k 0) = false) : TrAt w gm nb bs gs D (k + 1) wr := by
  obtain ⟨m, h1, h2, h3, h4, h5⟩ := h
  exact ⟨m, h1, h2, h3.congr fun j _ => by rw [tru_step hk, ht]; simp, h4, h5⟩
theorem TrAt.add {w wr : World} {gm nb k : Nat} {bs : List Bool} {gs : Gs} {D : List Nat} (h : TrAt w gm nb bs gs D k wr) (hk : k < D.length) (ht : tru bs gs (D.getD k 0) = true) (hx : D.getD k 0 < 4096 * nb) :
    Calls Try.prog 46 #[.slice (some ⟨gm, 0, none⟩) nb nb, .int .i64 ((D.getD k 0 : Nat) : Int)] wr fun e w' => e = .returned (.tuple #[]) ∧ TrAt w gm nb bs gs D (k + 1) w' := by
  obtain ⟨m, rfl, rfl, h3, h4, h5⟩ := h
  refine (madd_any h3 (D.getD k 0) hx).mono ?_
  rintro e w' ⟨rfl, m', hT⟩
  refine ⟨rfl, m', hT.gm, hT.nb, hT.at_.congr fun j _ => ?_, fun j hj => ?_, h5.trans (hT.kf.below h5.size fun x hx => h4 x hx)⟩
  · rw [tru_step hk, ht]; rfl
  · rcases hT.new j hj with y | y
    · exact h4 j y
    · exact Nat.le_trans h5.size y
theorem TrAt.says {w wr : World} {gm nb k : Nat} {bs : List Bool} {gs : Gs} {D : List Nat} (h : TrAt w gm nb bs gs D k wr) (a : Nat) (ha : a < 4294967296) (hn : a / 2 < 4096 * nb) :
    Calls Try.prog 33 #[.slice (some ⟨gm, 0, none⟩) nb nb, .int .u32 (a : Int)] wr fun e w' => e = .returned (.bool (truSt bs gs D k (a / 2) != odd a)) ∧ wr = w' := by
  obtain ⟨m, rfl, rfl, h3, _⟩ := h
  exact msays_any h3 a ha hn
def TruthTo (w : World) (bs : List Bool) (gs : Gs) (D : List Nat) (e : Ending) (w' : World) : Prop :=
  ∃ gm nb, e = .returned (.slice (some ⟨gm, 0, none⟩) nb nb) ∧ TrAt w gm nb bs gs D D.length w' ∧ gs.length ≤ 4096 * nb
set_option maxHeartbeats 6400000 in
set_option maxRecDepth 100000 in
theorem gtruth_any {w : World} {c : GrC} {gs mp : Gs} (h : GrAt w c gs (insL gs) mp) (hw : Wf gs) (hn : gs.length ≤ 90000) (V : Option Addr) (nv cv : Nat) (bs : List Bool) (hv : RdO w w.heap.size V nv bs)
    (A : Option Addr) (cD : Nat) (l D : List Nat) (hD : RdN .i64 w w.heap.size A D.length D) (hl : AllIn gs l) (hc : ConeL gs l D) :
    Calls Try.prog 31 #[.pointer (some ⟨c.bg, 0, none⟩), .slice V nv cv, .slice A D.length cD] w (TruthTo w bs gs D) := by
  have HNM := Lib.hid (mnew_any h hw.pos hn)
  have HG := Lib.hid h
  have HW := Lib.hid hw
  have HV := Lib.hid hv
  have HD := Lib.hid hD
  have HL := Lib.hid hl
  have HC := Lib.hid hc
  have hDl : D.length ≤ 9223372036854775807 := by
    have hnd : D.Nodup := hc.srt.imp fun h => Nat.ne_of_lt h
    have := List.Nodup.length_le_of_subset hnd (l₂ := List.range gs.length) fun x hx => List.mem_range.2 (((hc.mem x).1 hx).pos hw hl).2
    rw [List.length_range] at this
    omega
  clear h hw hv hD hl hc
  go_enter Try.func31, Try.ntmps31
  go_wp2_with fail
  refine HNM.out.mono ?_
  rintro e w1 ⟨m, rfl, hm, hnb, hb1, hno⟩
  have HT0 : Hid (TrAt w m.gm m.nb bs gs D 0 w1) := ⟨m, rfl, rfl, hm.congr fun j _ => truSt_zero j, hno, hb1⟩
  have HNB := Lib.hid hnb
  simp only [MkC.val]
  generalize m.gm = gm at *
  generalize m.nb = nb at *
  clear hm hnb hb1 hno HNM
  go_wp2_with fail
  go_loopw [17] (fun i wr => ∃ k : Nat, i = .int .i64 (k : Int) ∧ k ≤ D.length ∧ Hid (TrAt w gm nb bs gs D k wr)) (fun i _ => D.length - (intOf i).toNat)
  case atStart => exact ⟨0, rfl, Nat.zero_le _, HT0⟩
  case round =>
    obtain ⟨k, rfl, hk, hT⟩ := hrel
    clear HT0
    by_cases hlt : k < D.length
    · have tk : decide ((k : Int) < (D.length : Int)) = true := decide_eq_true (by omega)
      have tk2 : decide (k < D.length) = true := decide_eq_true hlt
      obtain ⟨m, _, _, _, _, hbr⟩ := hT.out
      obtain ⟨b, o, rfl, hb, hcx⟩ := (HD.out.belo hbr).get hlt
      have hr := (HC.out.mem _).1 (ngetD hlt)
      have hx := hr.pos HW.out HL.out
      have HPA := Lib.hid (gparts_any (HG.out.below hbr) HW.out hn (D.getD k 0) hx.2)
      have hw32 := wf_sml HW.out hn hx.2
      have HAD : Hid (∀ w3, TrAt w gm nb bs gs D k w3 → tru bs gs (D.getD k 0) = true → Calls Try.prog 46 #[.slice (some ⟨gm, 0, none⟩) nb nb, .int .i64 ((D.getD k 0 : Nat) : Int)] w3 fun e w' => e = .returned (.tuple #[]) ∧ TrAt w gm nb bs gs D (k + 1) w') := fun w3 h3 ht => h3.add hlt ht (by have := HNB.out; omega)
      have HSK : Hid (∀ w3, TrAt w gm nb bs gs D k w3 → tru bs gs (D.getD k 0) = false → TrAt w gm nb bs gs D (k + 1) w3) := fun w3 h3 ht => h3.skip hlt ht
      by_cases hne : getG gs (D.getD k 0) = (0, 0)
      · have hab : andB gs (D.getD k 0) = false := by unfold andB; rw [decide_eq_false]; exact fun e => e hne
        rw [hab] at HPA
        have HVA : Hid (∀ w3, Below wr.heap.size wr w3 → Calls Try.prog 45 #[.pointer (some ⟨c.bg, 0, none⟩), .slice V nv cv, .int .i64 ((D.getD k 0 : Nat) : Int)] w3 fun e w' => e = .returned (.bool (tru bs gs (D.getD k 0))) ∧ w3 = w') := fun w3 hb3 => by
          rw [tru_in hx.1 hne]
          exact gvalue_any ((HG.out.below hbr).below hb3) hn V nv cv bs ((HV.out.belo hbr).belo hb3) _ hx.2 hx.1 hne
        generalize tru bs gs (D.getD k 0) = tx at *
        generalize D.getD k 0 = x at *
        generalize (getG gs x).1 = a at *
        generalize (getG gs x).2 = bb at *
        clear hbr hr hx hw32 hne hab
        go_wp2_with fail
        refine HPA.out.mono ?_
        rintro e w3 ⟨rfl, hb3⟩
        have HV3 := Lib.hid (HVA.out w3 hb3)
        have HT3 := Lib.hid (hT.out.below hb3)
        clear hb3 HVA HPA hcx hT
        cases tx with
        | true =>
          have HA3 := Lib.hid (HAD.out w3 HT3.out rfl)
          clear HAD HSK HT3
          go_wp2_with fail
          refine HV3.out.mono ?_
          rintro e w' ⟨rfl, rfl⟩
          go_wp2_with fail
          refine HA3.out.mono ?_
          rintro e w4 ⟨rfl, hT4⟩
          have HT4 := Lib.hid hT4
          clear hT4 HA3 HV3
          go_wp2_with fail
          go_roundw
          case rel => exact ⟨k + 1, by go_num, by omega, HT4⟩
          case measure => simp [intOf]; omega
        | false =>
          have HT4 := Lib.hid (HSK.out w3 HT3.out rfl)
          clear HAD HSK HT3
          go_wp2_with fail
          refine HV3.out.mono ?_
          rintro e w' ⟨rfl, rfl⟩
          go_wp2_with fail
          go_roundw
          case rel => exact ⟨k + 1, by go_num, by omega, HT4⟩
          case measure => simp [intOf]; omega
      · have hab : andB gs (D.getD k 0) = true := by unfold andB; rw [decide_eq_true hne]
        rw [hab] at HPA
        have htr := tru_and (vals := bs) HW.out hx.2 hne
        obtain ⟨ch1, ch2⟩ := cone_child (vals := bs) HW.out HL.out HC.out hlt hne
        have hlt2 := HW.out.lt1 hx.2 hne
        have HSA : Hid (∀ w3, TrAt w gm nb bs gs D k w3 → Calls Try.prog 33 #[.slice (some ⟨gm, 0, none⟩) nb nb, .int .u32 (((getG gs (D.getD k 0)).1 : Nat) : Int)] w3 fun e w' => e = .returned (.bool (sayE bs gs (getG gs (D.getD k 0)).1)) ∧ w3 = w') := fun w3 h3 => by
          rw [← ch1]; exact h3.says _ hw32.1 (by have := HNB.out; omega)
        have HSB : Hid (∀ w3, TrAt w gm nb bs gs D k w3 → Calls Try.prog 33 #[.slice (some ⟨gm, 0, none⟩) nb nb, .int .u32 (((getG gs (D.getD k 0)).2 : Nat) : Int)] w3 fun e w' => e = .returned (.bool (sayE bs gs (getG gs (D.getD k 0)).2)) ∧ w3 = w') := fun w3 h3 => by
          rw [← ch2]; exact h3.says _ hw32.2 (by have := HNB.out; omega)
        rw [htr] at HAD HSK
        generalize sayE bs gs (getG gs (D.getD k 0)).1 = sa at *
        generalize sayE bs gs (getG gs (D.getD k 0)).2 = sb at *
        generalize D.getD k 0 = x at *
        generalize (getG gs x).1 = a at *
        generalize (getG gs x).2 = bb at *
        clear hbr hr hx hw32 hne hab htr ch1 ch2 hlt2
        go_wp2_with fail
        refine HPA.out.mono ?_
        rintro e w3 ⟨rfl, hb3⟩
        have HT3 := Lib.hid (hT.out.below hb3)
        have HA1 := Lib.hid (HSA.out w3 HT3.out)
        have HA2 := Lib.hid (HSB.out w3 HT3.out)
        clear hb3 HSA HSB HPA hcx hT
        cases sa with
        | false =>
          have HT4 := Lib.hid (HSK.out w3 HT3.out rfl)
          clear HAD HSK HT3 HA2
          go_wp2_with fail
          refine HA1.out.mono ?_
          rintro e w' ⟨rfl, rfl⟩
          go_wp2_with fail
          go_roundw
          case rel => exact ⟨k + 1, by go_num, by omega, HT4⟩
          case measure => simp [intOf]; omega
        | true =>
          cases sb with
          | false =>
            have HT4 := Lib.hid (HSK.out w3 HT3.out rfl)
            clear HAD HSK HT3
            go_wp2_with fail
            refine HA1.out.mono ?_
            rintro e w' ⟨rfl, rfl⟩
            go_wp2_with fail
            refine HA2.out.mono ?_
            rintro e w' ⟨rfl, rfl⟩
            go_wp2_with fail
            go_roundw
            case rel => exact ⟨k + 1, by go_num, by omega, HT4⟩
            case measure => simp [intOf]; omega
          | true =>
            have HA3 := Lib.hid (HAD.out w3 HT3.out rfl)
            clear HAD HSK HT3
            go_wp2_with fail
            refine HA1.out.mono ?_
            rintro e w' ⟨rfl, rfl⟩
            go_wp2_with fail
            refine HA2.out.mono ?_
            rintro e w' ⟨rfl, rfl⟩
            go_wp2_with fail
            refine HA3.out.mono ?_
            rintro e w4 ⟨rfl, hT4⟩
            have HT4 := Lib.hid hT4
            clear hT4 HA3 HA1 HA2
            go_wp2_with fail
            go_roundw
            case rel => exact ⟨k + 1, by go_num, by omega, HT4⟩
            case measure => simp [intOf]; omega
    · have tk : decide ((k : Int) < (D.length : Int)) = false := decide_eq_false (by omega)
      have tk2 : decide (k < D.length) = false := decide_eq_false hlt
      obtain rfl : k = D.length := by omega
      have HE : Hid (TruthTo w bs gs D (.returned (.slice (some ⟨gm, 0, none⟩) nb nb)) wr) := ⟨gm, nb, rfl, hT.out, HNB.out⟩
      go_wp2_with fail
      go_ret
      exact HE.out
theorem info_gbool : (Try.prog.info? 4).map (fun i => (i.zero, i.size, i.bytes)) = some (some (.bool false), 1, 1) := by kernel_rfl
/-- What is said of the first k edges. -/
def saidF (bs : List Bool) (gs : Gs) (l : List Nat) (k j : Nat) : Value := .bool (if j < k then sayE bs gs (l.getD j 0) else false)
theorem saidF_step (bs : List Bool) (gs : Gs) (l : List Nat) (k j : Nat) : saidF bs gs l (k + 1) j = updV (saidF bs gs l k) k (.bool (sayE bs gs (l.getD k 0))) j := by
  unfold saidF
  by_cases e : j = k
  · subst e; rw [updV_at, if_pos (by omega)]
  · rw [updV_ne _ _ e]
    by_cases e2 : j < k
    · rw [if_pos e2, if_pos (by omega)]
    · rw [if_neg e2, if_neg (by omega)]
/-- What Eval answers. -/
def EvalTo (bs : List Bool) (gs : Gs) (l : List Nat) (w : World) (e : Ending) (w' : World) : Prop :=
  ∃ g, e = .returned (.tuple #[.slice (some ⟨g, 0, none⟩) l.length l.length, .int .i64 0]) ∧ RowV 4 1 w' g l.length l.length (fun j => .bool (sayE bs gs (l.getD j 0))) ∧ w.heap.size ≤ g ∧ Below w.heap.size w w'
set_option maxHeartbeats 6400000 in
set_option maxRecDepth 100000 in
theorem geval_any {w : World} {c : GrC} {gs mp : Gs} (h : GrAt w c gs (insL gs) mp) (hw : Wf gs) (hn : gs.length ≤ 90000) (V : Option Addr) (nv cv : Nat) (bs : List Bool) (hv : RdO w w.heap.size V nv bs)
    (A : Option Addr) (n cn : Nat) (l : List Nat) (hl : RdN .u32 w w.heap.size A n l) (hin : AllIn gs l) (hnn : n ≤ 90000) :
    Calls Try.prog 17 #[.pointer (some ⟨c.bg, 0, none⟩), .slice V nv cv, .slice A n cn] w (EvalTo bs gs l w) := by
  have HS := Lib.hid (AllIn.sml hin hn)
  have HH := Lib.hid (ghas_any h A n cn l hl HS.out (by omega))
  rw [hasG_iff.2 hin] at HH
  have HCO := Lib.hid (gcone_any h hw A n cn l hl hin hn hnn)
  have HG := Lib.hid h
  have HW := Lib.hid hw
  have HV := Lib.hid hv
  have HL := Lib.hid hl
  have HI := Lib.hid hin
  clear h hw hv hl hin
  go_enter Try.func17, Try.ntmps17
  go_wp2_with fail
  refine HH.out.mono ?_
  rintro e w' ⟨rfl, rfl⟩
  go_wp2_with fail
  refine HCO.out.mono ?_
  rintro e w1 ⟨D, A1, c1, rfl, hD, hrow, hlo, hb1⟩
  have HTR := Lib.hid (gtruth_any (HG.out.below hb1) HW.out hn V nv cv bs (HV.out.belo hb1) A1 c1 l D hrow.rdn HI.out hD)
  have HB1 := Lib.hid hb1
  have HC := Lib.hid hD
  generalize D.length = dl at *
  clear hD hrow hlo hb1 HCO HH
  go_wp2_with fail
  refine HTR.out.mono ?_
  rintro e w2 ⟨gm, nb, rfl, hT, hnb⟩
  obtain ⟨C, hC1, hC2, hmk0⟩ := make_sl (P := Try.prog) 49 4 Try.underlying49 info_gbool rfl (by decide) (by decide) n (by omega)
  have hmk := hmk0 w2
  have hb2 : Below w1.heap.size w1 w2 := by obtain ⟨_, _, _, _, _, hb2⟩ := hT; exact hb2
  have hr1 : RowV 4 1 (w2.alloc (.cells C 4)) w2.heap.size n n (saidF bs gs l 0) := RowV.made (by omega) hC1 fun j hj => by rw [hC2 j hj, Nat.mod_one]; unfold saidF; rw [if_neg (by omega)]; rfl
  have HP0 : Hid (RowV 4 1 (w2.alloc (.cells C 4)) w2.heap.size n n (saidF bs gs l 0) ∧ Below w2.heap.size w2 (w2.alloc (.cells C 4))) := ⟨hr1, (Below.refl _ _).alloc (Nat.le_refl _) _⟩
  have HT := Lib.hid hT
  have HNB := Lib.hid hnb
  have HB2 : Hid (Below w.heap.size w w2) := HB1.out.trans (hb2.mono HB1.out.size)
  clear hT hnb hC1 hC2 hmk0 hb2 hr1 HTR
  go_wp2_with fail
  generalize hG : w2.heap.size = G at *
  go_loopw [27] (fun i wr => ∃ k : Nat, i = .int .i64 (k : Int) ∧ k ≤ n ∧ Hid (RowV 4 1 wr G n n (saidF bs gs l k) ∧ Below G w2 wr)) (fun i _ => n - (intOf i).toNat)
  case atStart => exact ⟨0, rfl, Nat.zero_le _, HP0⟩
  case round =>
    obtain ⟨k, rfl, hk, hP⟩ := hrel
    clear HP0
    by_cases hlt : k < n
    · have tk : decide ((k : Int) < (n : Int)) = true := decide_eq_true (by omega)
      have tk2 : decide (k < n) = true := decide_eq_true hlt
      have tk3 : decide ((n : Int) ≤ (k : Int)) = false := decide_eq_false (by omega)
      have hkl : k < l.length := by have := HL.out.len; omega
      have hbr : Below w.heap.size w wr := HB2.out.trans (by rw [← hG] at hP; exact hP.out.2.mono HB2.out.size)
      obtain ⟨b, o, rfl, hb, hc⟩ := (HL.out.below hbr).get hlt
      have hx := HS.out k
      have hxi : l.getD k 0 / 2 < gs.length := HI.out _ (nmem.2 ⟨k, hkl, rfl⟩)
      have hsy := (HT.out.below (by rw [hG]; exact hP.out.2)).says (l.getD k 0) hx (by have := HNB.out; omega)
      rw [cone_says HW.out HC.out (nmem.2 ⟨k, hkl, rfl⟩)] at hsy
      have HSY := Lib.hid hsy
      have HN : Hid (RowV 4 1 (wr.setCell ⟨G, k, none⟩ (.bool (sayE bs gs (l.getD k 0)))) G n n (saidF bs gs l (k + 1)) ∧ Below G w2 (wr.setCell ⟨G, k, none⟩ (.bool (sayE bs gs (l.getD k 0))))) :=
        ⟨(hP.out.1.set (show k < n * 1 by omega) _).congr fun j _ => saidF_step bs gs l k j, hP.out.2.setCell (Nat.le_refl _) _⟩
      have d0 : wr.cell? ⟨G, k, none⟩ = some (.bool false) := by
        rw [hP.out.1.cell (show k < n * 1 by omega)]; unfold saidF; rw [if_neg (by omega)]
      have d1 := hP.out.1.free k
      have HGE := Lib.hid hG
      clear hP hsy hbr hG
      generalize l.getD k 0 = x at *
      generalize sayE bs gs x = sx at *
      go_wp2_with fail
      refine HSY.out.mono ?_
      rintro e w' ⟨rfl, rfl⟩
      go_wp2_with fail
      go_roundw
      case rel => exact ⟨k + 1, by go_num, by omega, HN⟩
      case measure => simp [intOf]; omega
    · have tk : decide ((k : Int) < (n : Int)) = false := decide_eq_false (by omega)
      have tk2 : decide (k < n) = false := decide_eq_false hlt
      obtain rfl : k = n := by omega
      have HE : Hid (EvalTo bs gs l w (.returned (.tuple #[.slice (some ⟨G, 0, none⟩) k k, .int .i64 0])) wr) := by
        have hkl : l.length = k := HL.out.len
        have hsz := HB2.out.size
        refine ⟨G, by rw [hkl], ?_, by omega, HB2.out.trans (by rw [← hG] at hP; exact hP.out.2.mono hsz)⟩
        rw [hkl]
        exact hP.out.1.congr fun j hj => by unfold saidF; rw [if_pos (by omega)]
      clear hG hP
      go_wp2_with fail
      go_ret2
      exact HE.out
set_option maxHeartbeats 1600000 in
theorem geval_no {w : World} {c : GrC} {gs mp : Gs} {ins : List Nat} (h : GrAt w c gs ins mp) (V : Option Addr) (nv cv : Nat) (A : Option Addr) (n cn : Nat) (l : List Nat) (hl : RdN .u32 w w.heap.size A n l) (hs : Sml l) (hb : hasG gs l = false) (hnn : n ≤ 90000) :
    Calls Try.prog 17 #[.pointer (some ⟨c.bg, 0, none⟩), .slice V nv cv, .slice A n cn] w fun e w' => e = .returned (.tuple #[.slice none 0 0, .int .i64 101]) ∧ w = w' := by
  have HH := Lib.hid (ghas_any h A n cn l hl hs (by omega))
  rw [hb] at HH
  clear h hl hs hb
  go_enter Try.func17, Try.ntmps17
  go_wp2_with fail
  refine HH.out.mono ?_
  rintro e w' ⟨rfl, rfl⟩
  go_wp2_with fail
  go_ret2
  exact ⟨rfl, rfl⟩
/-- What Cone answers. -/
def ConeTo2 (gs : Gs) (l : List Nat) (w : World) (e : Ending) (w' : World) : Prop :=
  ∃ D A c, e = .returned (.tuple #[.slice A D.length c, .int .i64 0]) ∧ ConeL gs l D ∧ SlN .i64 3 w' A c D ∧ (∀ k, onB A k → w.heap.size ≤ k) ∧ Below w.heap.size w w'
end Go.Proofs.Ytmiifhclcknhdaa
