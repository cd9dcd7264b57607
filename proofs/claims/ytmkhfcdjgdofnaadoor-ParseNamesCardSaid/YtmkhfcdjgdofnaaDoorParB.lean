/- Package parse: words that are taken, or can't stand there. -/
import Derived.Test.YtmkhfcdjgdofnaaDoorParA
namespace Go.Proofs.YtmkhfcdjgdofnaaDoor
open Go.RowKit TreM WrdM ParM

theorem ends_text {t : Tok} {r : List Tok} {s : List UInt8} (h : EndsT (t :: r)) (he : t.text = s) (hs : s ≠ []) : EndsT r := by
  obtain ⟨_, ⟨_, _, h3⟩ | ⟨_, _, h3⟩⟩ := h
  · exact absurd (he.symm.trans h3) hs
  · exact h3
theorem ends_kind {t : Tok} {r : List Tok} (h : EndsT (t :: r)) (he : t.kind ≠ 5) : EndsT r := by
  obtain ⟨_, ⟨_, h3, _⟩ | ⟨_, _, h3⟩⟩ := h
  · exact absurd h3 he
  · exact h3
theorem Rdr.ends {W : World} {g o : Nat} {L : List Tok} (h : Rdr W g L o) : EndsT L := by
  obtain ⟨A, c, h⟩ := h
  exact h.ends
theorem rskip_any {g o : Nat} {t : Tok} {r : List Tok} (s : List UInt8) (hs : s ≠ []) (w : World) (h : Rdr w g (t :: r) o) :
    Calls Tryd.prog 56 #[.pointer (some ⟨g, 0, none⟩), .string ⟨s.toArray⟩] w fun e w' => (t.text = s ∧ e = .returned (.bool true) ∧ Rdr w' g r o ∧ Kg g w w') ∨ (t.text ≠ s ∧ e = .returned (.bool false) ∧ w = w') := by
  have HI := Lib.hid (is_any s w h)
  by_cases hts : t.text = s
  · have HT := Lib.hid (take_any w h (ends_text h.ends hts hs))
    rw [decide_eq_true hts] at HI
    have HE := Lib.hid hts
    clear hts h
    generalize (⟨s.toArray⟩ : ByteArray) = sb at *
    go_enter Tryd.func56, Tryd.ntmps56
    go_wp2_with fail
    refine HI.out.mono ?_
    rintro e w1 ⟨rfl, rfl⟩
    go_wp2_with fail
    refine HT.out.mono ?_
    rintro e w2 ⟨rfl, hr, hk⟩
    have HR := Lib.hid hr
    have HK := Lib.hid hk
    clear hr hk
    go_wp2_with fail
    go_ret
    exact .inl ⟨HE.out, rfl, HR.out, HK.out⟩
  · rw [decide_eq_false hts] at HI
    have HE := Lib.hid hts
    clear hts h
    generalize (⟨s.toArray⟩ : ByteArray) = sb at *
    go_enter Tryd.func56, Tryd.ntmps56
    go_wp2_with (refine HI.out.mono ?_; rintro e w1 ⟨rfl, rfl⟩)
    go_ret
    exact .inr ⟨HE.out, rfl, rfl⟩
theorem must_any {g o : Nat} (L : List Tok) (s : List UInt8) (hs : s ≠ []) (w : World) (h : Rdr w g L o) :
    Calls Tryd.prog 51 #[.pointer (some ⟨g, 0, none⟩), .string ⟨s.toArray⟩] w (PTo g o w RVoid (mustR s L)) := by
  have hlt := h.lt
  cases L with
  | nil => exact absurd h.ends (fun h => h)
  | cons t r =>
  have HS := Lib.hid (rskip_any s hs w h)
  have HA := Lib.hid (ahead_any w h)
  have HF := Lib.hid (fail_any t)
  have HM : Hid (mustR s (t :: r) = if t.text = s then .ok () r else .bad t.line t.col) := rfl
  have HLT := Lib.hid hlt
  clear h hlt
  generalize (⟨s.toArray⟩ : ByteArray) = sb at *
  generalize mustR s (t :: r) = R at *
  generalize (tokC t).toArray = tc at *
  go_enter Tryd.func51, Tryd.ntmps51
  go_wp2_with fail
  refine HS.out.mono ?_
  rintro e w1 (⟨he, rfl, hr, hk⟩ | ⟨he, rfl, rfl⟩)
  · have HR := Lib.hid hr
    have HK := Lib.hid hk
    have HE := Lib.hid he
    clear hr hk he HS
    go_wp2_with fail
    go_end0
    rw [HM.out, if_pos HE.out]
    exact ⟨rfl, HR.out, HK.out⟩
  · have HE := Lib.hid he
    clear he HS
    go_wp2_with fail
    refine HA.out.mono ?_
    rintro e w2 ⟨rfl, hb⟩
    have HB := Lib.hid hb
    clear hb
    go_wp2_with fail
    refine (HF.out w2).mono ?_
    rintro e w3 ⟨rfl, hb⟩
    refine ⟨rfl, ?_⟩
    show PTo _ _ _ _ _ _ _
    rw [HM.out, if_neg HE.out]
    exact ⟨rfl, (HB.out.trans (hb.mono HB.out.size)).mono (Nat.le_of_lt HLT.out)⟩
set_option maxHeartbeats 1600000 in
theorem rkind_any {g o : Nat} (L : List Tok) (k : Int) (hk5 : k ≠ 5) (w : World) (h : Rdr w g L o) :
    Calls Tryd.prog 77 #[.pointer (some ⟨g, 0, none⟩), .int .i64 k] w (PTo g o w RTok (kindR k L)) := by
  have hlt := h.lt
  cases L with
  | nil => exact absurd h.ends (fun h => h)
  | cons t r =>
  obtain ⟨wa, hwa⟩ : ∃ wa, wa = w.alloc (.cells #[.int .i64 0, .string ⟨#[]⟩, .int .i64 0, .int .i64 0, .int .i64 0] 71) := ⟨_, rfl⟩
  have hba : Below w.heap.size w wa := by rw [hwa]; exact below_alloc w _
  have hna : wa.heap[w.heap.size]? = some (.cells #[.int .i64 0, .string ⟨#[]⟩, .int .i64 0, .int .i64 0, .int .i64 0] 71 (0, 0)) := by rw [hwa]; exact blk_new w _
  have hza : wa.heap.size = w.heap.size + 1 := by rw [hwa]; simp
  have HA := Lib.hid (ahead_any wa (h.below hba))
  have HT : Hid (t.kind = k → ∀ W, Below w.heap.size w W → Calls Tryd.prog 47 #[.pointer (some ⟨g, 0, none⟩)] W fun e w' => e = .returned (.agg (tokC t).toArray) ∧ Rdr w' g r o ∧ Kg g W w') := fun hk W hW => take_any W (h.below hW) (ends_kind h.ends (by rw [hk]; exact hk5))
  have HF := Lib.hid (fail_any t)
  have HM : Hid (kindR k (t :: r) = if t.kind = k then .ok t r else .bad t.line t.col) := rfl
  have HLT := Lib.hid hlt
  have HNA := Lib.hid hna
  have HZA := Lib.hid hza
  have HBA := Lib.hid hba
  have HWA := Lib.hid hwa
  have HR0 : Hid (∀ W, RTok W t (.returned (.agg (tokC t).toArray))) := fun _ => rfl
  have htc : (tokC t).toArray = #[.int .i64 t.kind, .string ⟨t.text.toArray⟩, .int .i64 t.num, .int .i64 t.line, .int .i64 t.col] := rfl
  rw [htc] at HA HT HF HR0
  have e1 : (t.kind != k) = !decide (t.kind = k) := by rw [bne]; congr 1
  have HD : Hid (decide (t.kind = k) = true ↔ t.kind = k) := ⟨fun h => of_decide_eq_true h, fun h => decide_eq_true h⟩
  have HD0 : Hid (decide (t.kind = k) = false → ¬ t.kind = k) := fun h => of_decide_eq_false h
  clear h hlt htc hba hna hza hwa
  generalize kindR k (t :: r) = R at *
  generalize decide (t.kind = k) = q at *
  generalize (⟨t.text.toArray⟩ : ByteArray) = sb at *
  go_enter Tryd.func77, Tryd.ntmps77
  go_upto_region 1 with (fail)
  have hwa := HWA.out
  rw [← hwa]
  clear hwa HWA
  go_wp2_with fail
  refine HA.out.mono ?_
  rintro e w1 ⟨rfl, hb⟩
  have HB1 := Lib.hid hb
  clear hb HA
  obtain ⟨wb, hwb⟩ : ∃ wb, wb = w1.alloc (.cells #[.int .i64 t.kind, .string sb, .int .i64 t.num, .int .i64 t.line, .int .i64 t.col] 71) := ⟨_, rfl⟩
  have hbb : Below w1.heap.size w1 wb := by rw [hwb]; exact below_alloc w1 _
  have HB2 : Hid (Below wa.heap.size wa wb) := HB1.out.trans (hbb.mono HB1.out.size)
  have HWB := Lib.hid hwb
  obtain ⟨s0, s1, s2, s3, s4⟩ := tok_cells w1 (.int .i64 t.kind) (.string sb) (.int .i64 t.num) (.int .i64 t.line) (.int .i64 t.col) 71
  rw [← hwb] at s0 s1 s2 s3 s4
  clear hwb hbb
  go_upto_region 2 with (fail)
  have hwb := HWB.out
  rw [← hwb]
  clear hwb HWB
  rcases q with _ | _
  · have HN := Lib.hid (HD0.out rfl)
    clear HD HD0 HT
    go_wp2_with fail
    refine (HF.out wb).mono ?_
    rintro e w3 ⟨rfl, hb⟩
    refine ⟨rfl, ?_⟩
    show PTo _ _ _ _ _ _ _
    rw [HM.out, if_neg HN.out]
    exact ⟨rfl, (HBA.out.trans ((HB2.out.trans (hb.mono HB2.out.size)).mono HBA.out.size)).mono (Nat.le_of_lt HLT.out)⟩
  · have HN := Lib.hid (HD.out.1 rfl)
    have HT2 := Lib.hid (HT.out HN.out wb (HBA.out.trans (HB2.out.mono HBA.out.size)))
    clear HD HD0 HT HF
    go_wp2_with fail
    refine HT2.out.mono ?_
    rintro e w3 ⟨rfl, hr, hk⟩
    have HR := Lib.hid hr
    have HK := Lib.hid hk
    have hz := HZA.out
    have hlt := HLT.out
    have hn3 : w3.heap[w.heap.size]? = some (.cells #[.int .i64 0, .string ⟨#[]⟩, .int .i64 0, .int .i64 0, .int .i64 0] 71 (0, 0)) :=
      (hk.block _ (by have := HB2.out.size; omega) (by omega)).trans ((HB2.out.block _ (by omega)).trans HNA.out)
    have uf := Lib.frozen_of_heap hn3
    obtain ⟨p0, p1, p2, p3, p4⟩ := cells5 hn3
    have hq := pfive_set hn3 (.int .i64 t.kind) (.string sb) (.int .i64 t.num) (.int .i64 t.line) (.int .i64 t.col)
    obtain ⟨q0, q1, q2, q3, q4⟩ := cells5 hq
    have HK2 : Hid (Kg g w w3) := (Kg.of_below (HBA.out.trans (HB2.out.mono HBA.out.size))).trans' hk
    clear hr hk hq hn3 HT2 s0 s1 s2 s3 s4
    go_wp2_with fail
    refine bodyPost_ret (v := .agg #[.int .i64 t.kind, .string sb, .int .i64 t.num, .int .i64 t.line, .int .i64 t.col]) (by simp [results, Tryd.results77, go_sem, q0, q1, q2, q3, q4]) rfl ?_
    show PTo _ _ _ _ _ _ _
    rw [HM.out, if_pos HN.out]
    exact ⟨HR0.out _, HR.out.high (kf_five _ _ _ _ _ _ _) hlt, HK2.out.of_high (kf_five _ _ _ _ _ _ _) (Nat.le_refl _)⟩
set_option maxHeartbeats 1600000 in
theorem rname_any {g o : Nat} (L : List Tok) (w : World) (h : Rdr w g L o) :
    Calls Tryd.prog 52 #[.pointer (some ⟨g, 0, none⟩)] w (PTo g o w RTok (kindR 1 L)) := by
  have hlt := h.lt
  obtain ⟨wa, hwa⟩ : ∃ wa, wa = w.alloc (.cells #[.int .i64 0, .string ⟨#[]⟩, .int .i64 0, .int .i64 0, .int .i64 0] 71) := ⟨_, rfl⟩
  have hba : Below w.heap.size w wa := by rw [hwa]; exact below_alloc w _
  have hna : wa.heap[w.heap.size]? = some (.cells #[.int .i64 0, .string ⟨#[]⟩, .int .i64 0, .int .i64 0, .int .i64 0] 71 (0, 0)) := by rw [hwa]; exact blk_new w _
  have hza : wa.heap.size = w.heap.size + 1 := by rw [hwa]; simp
  have HK := Lib.hid (rkind_any L 1 (by decide) wa (h.below hba))
  have HWA := Lib.hid hwa
  clear h hwa
  go_enter Tryd.func52, Tryd.ntmps52
  go_upto_region 1 with (fail)
  have hwa := HWA.out
  rw [← hwa]
  clear hwa HWA
  go_wp2_with fail
  refine HK.out.mono ?_
  intro e w1 hp
  unfold PTo at hp
  rcases hR : kindR 1 L with ⟨l, c⟩ | ⟨t, r⟩
  · rw [hR] at hp
    obtain ⟨rfl, hb⟩ := hp
    refine ⟨rfl, ?_⟩
    show PTo _ _ _ _ _ _ _
    exact ⟨rfl, (hba.mono (Nat.le_of_lt hlt)).trans hb⟩
  · rw [hR] at hp
    obtain ⟨he, hr, hk⟩ := hp
    have he2 : e = .returned (.agg #[.int .i64 t.kind, .string ⟨t.text.toArray⟩, .int .i64 t.num, .int .i64 t.line, .int .i64 t.col]) := he
    have HR0 : Hid (∀ W, RTok W t (.returned (.agg #[.int .i64 t.kind, .string ⟨t.text.toArray⟩, .int .i64 t.num, .int .i64 t.line, .int .i64 t.col]))) := fun _ => rfl
    clear he
    subst he2
    have HR := Lib.hid hr
    have hn3 : w1.heap[w.heap.size]? = some (.cells #[.int .i64 0, .string ⟨#[]⟩, .int .i64 0, .int .i64 0, .int .i64 0] 71 (0, 0)) :=
      (hk.block _ (by omega) (by omega)).trans hna
    have uf := Lib.frozen_of_heap hn3
    obtain ⟨p0, p1, p2, p3, p4⟩ := cells5 hn3
    have hq := pfive_set hn3 (.int .i64 t.kind) (.string ⟨t.text.toArray⟩) (.int .i64 t.num) (.int .i64 t.line) (.int .i64 t.col)
    obtain ⟨q0, q1, q2, q3, q4⟩ := cells5 hq
    have HK2 : Hid (Kg g w w1) := (Kg.of_below hba).trans' hk
    have HRR := Lib.hid hR
    clear hr hk hq hn3 hR HK hna hba
    generalize (⟨t.text.toArray⟩ : ByteArray) = sb at *
    go_wp2_with fail
    refine bodyPost_ret (v := .agg #[.int .i64 t.kind, .string sb, .int .i64 t.num, .int .i64 t.line, .int .i64 t.col]) (by simp [results, Tryd.results52, go_sem, q0, q1, q2, q3, q4]) rfl ?_
    show PTo _ _ _ _ _ _ _
    rw [HRR.out]
    exact ⟨HR0.out _, HR.out.high (kf_five _ _ _ _ _ _ _) hlt, HK2.out.of_high (kf_five _ _ _ _ _ _ _) (Nat.le_refl _)⟩
set_option maxHeartbeats 1600000 in
theorem rend_any {α : Type} {g o : Nat} (x : α) (L : List Tok) (w : World) (h : Rdr w g L o) :
    Calls Tryd.prog 23 #[.pointer (some ⟨g, 0, none⟩)] w (PTo g o w (fun _ _ e => e = .returned (.tuple #[])) (endR x L)) := by
  have hlt := h.lt
  cases L with
  | nil => exact absurd h.ends (fun h => h)
  | cons t r =>
  have HA := Lib.hid (ahead_any w h)
  have HF := Lib.hid (fail_any t)
  have HM : Hid (endR x (t :: r) = if t.kind = 5 then .ok x (t :: r) else .bad t.line t.col) := rfl
  have HLT := Lib.hid hlt
  have HH := Lib.hid h
  have htc : (tokC t).toArray = #[.int .i64 t.kind, .string ⟨t.text.toArray⟩, .int .i64 t.num, .int .i64 t.line, .int .i64 t.col] := rfl
  rw [htc] at HA HF
  have e1 : (t.kind != 5) = !decide (t.kind = 5) := by rw [bne]; congr 1
  have HD : Hid (decide (t.kind = 5) = true → t.kind = 5) := fun h => of_decide_eq_true h
  have HD0 : Hid (decide (t.kind = 5) = false → ¬ t.kind = 5) := fun h => of_decide_eq_false h
  clear h hlt htc
  generalize endR x (t :: r) = R at *
  generalize decide (t.kind = 5) = q at *
  generalize (⟨t.text.toArray⟩ : ByteArray) = sb at *
  go_enter Tryd.func23, Tryd.ntmps23
  go_wp2_with fail
  refine HA.out.mono ?_
  rintro e w1 ⟨rfl, hb⟩
  have HB1 := Lib.hid hb
  clear hb HA
  obtain ⟨wb, hwb⟩ : ∃ wb, wb = w1.alloc (.cells #[.int .i64 t.kind, .string sb, .int .i64 t.num, .int .i64 t.line, .int .i64 t.col] 71) := ⟨_, rfl⟩
  have hbb : Below w1.heap.size w1 wb := by rw [hwb]; exact below_alloc w1 _
  have HB2 : Hid (Below w.heap.size w wb) := HB1.out.trans (hbb.mono HB1.out.size)
  have HWB := Lib.hid hwb
  obtain ⟨s0, s1, s2, s3, s4⟩ := tok_cells w1 (.int .i64 t.kind) (.string sb) (.int .i64 t.num) (.int .i64 t.line) (.int .i64 t.col) 71
  rw [← hwb] at s0 s1 s2 s3 s4
  clear hwb hbb
  go_upto_region 1 with (fail)
  have hwb := HWB.out
  rw [← hwb]
  clear hwb HWB
  rcases q with _ | _
  · have HN := Lib.hid (HD0.out rfl)
    clear HD HD0
    go_wp2_with fail
    refine (HF.out wb).mono ?_
    rintro e w3 ⟨rfl, hb⟩
    refine ⟨rfl, ?_⟩
    show PTo _ _ _ _ _ _ _
    rw [HM.out, if_neg HN.out]
    exact ⟨rfl, (HB2.out.trans (hb.mono HB2.out.size)).mono (Nat.le_of_lt HLT.out)⟩
  · have HN := Lib.hid (HD.out rfl)
    clear HD HD0 HF
    go_wp2_with fail
    go_end0
    rw [HM.out, if_pos HN.out]
    exact ⟨rfl, HH.out.below HB2.out, Kg.of_below HB2.out⟩
/-- One more is open. -/
theorem Rdr.open_ {W : World} {g o o' : Nat} {L : List Tok} (h : Rdr W g L o) : Rdr (W.setCell ⟨g, 1, none⟩ (.int .i64 (o' : Int))) g L o' := by
  obtain ⟨A, c, h⟩ := h
  have hk : Kg g W (W.setCell ⟨g, 1, none⟩ (.int .i64 (o' : Int))) := Kf.set (F := fun k => k = g) (Kf.refl _ W) (p := ⟨g, 1, none⟩) (.inl rfl) _
  exact ⟨A, c, by rw [Lib.heap_setCell_same h.blk]; rfl, h.n, h.c, h.toks.below (hk.low h.lt), h.ends⟩
theorem kg_open {W : World} {g : Nat} (v : Value) : Kg g W (W.setCell ⟨g, 1, none⟩ v) := Kf.set (F := fun k => k = g) (Kf.refl _ W) (p := ⟨g, 1, none⟩) (.inl rfl) _
set_option maxHeartbeats 1600000 in
theorem enter_no {g o : Nat} {t : Tok} {r : List Tok} (w : World) (h : Rdr w g (t :: r) o) (ho : 60 ≤ o) (ho2 : o ≤ 1000) :
    Calls Tryd.prog 72 #[.pointer (some ⟨g, 0, none⟩)] w fun e w' => e = Thr t.line t.col ∧ Below g w w' := by
  have HLT := Lib.hid h.lt
  have h2 : Rdr (w.setCell ⟨g, 1, none⟩ (.int .i64 ((o + 1 : Nat) : Int))) g (t :: r) (o + 1) := h.open_
  have HA := Lib.hid (ahead_any _ h2)
  have HF := Lib.hid (fail_any t)
  have HK : Hid (Below g w (w.setCell ⟨g, 1, none⟩ (.int .i64 ((o + 1 : Nat) : Int)))) := (kg_open _).low h.lt
  have hz : (w.setCell ⟨g, 1, none⟩ (.int .i64 ((o + 1 : Nat) : Int))).heap.size = w.heap.size := by simp [World.setCell]
  have HZ := Lib.hid hz
  obtain ⟨A, c, h⟩ := h
  obtain ⟨d0, d1⟩ := cells2 h.blk
  have uf := Lib.frozen_of_heap h.blk
  have t1 : decide ((60 : Int) < (o : Int) + 1) = true := decide_eq_true (by omega)
  have hlt := h.lt
  have hnum : ((o + 1 : Nat) : Int) = (o : Int) + 1 := by omega
  rw [hnum] at HA HK HZ
  clear h h2 hz hnum
  generalize (tokC t).toArray = tc at *
  go_enter Tryd.func72, Tryd.ntmps72
  go_wp2_with fail
  refine HA.out.mono ?_
  rintro e w1 ⟨rfl, hb⟩
  have HB := Lib.hid hb
  clear hb
  go_wp2_with fail
  refine (HF.out w1).mono ?_
  rintro e w3 ⟨rfl, hb⟩
  refine ⟨rfl, rfl, ?_⟩
  exact HK.out.trans ((HB.out.trans (hb.mono HB.out.size)).mono (by rw [HZ.out]; omega))
set_option maxHeartbeats 1600000 in
theorem enter_yes {g o : Nat} {L : List Tok} (w : World) (h : Rdr w g L o) (ho : o < 60) :
    Calls Tryd.prog 72 #[.pointer (some ⟨g, 0, none⟩)] w fun e w' => e = .returned (.tuple #[]) ∧ Rdr w' g L (o + 1) ∧ Kg g w w' := by
  have HR : Hid (Rdr (w.setCell ⟨g, 1, none⟩ (.int .i64 ((o + 1 : Nat) : Int))) g L (o + 1)) := h.open_
  have HK : Hid (Kg g w (w.setCell ⟨g, 1, none⟩ (.int .i64 ((o + 1 : Nat) : Int)))) := kg_open _
  obtain ⟨A, c, h⟩ := h
  obtain ⟨d0, d1⟩ := cells2 h.blk
  have uf := Lib.frozen_of_heap h.blk
  have t1 : decide ((60 : Int) < (o : Int) + 1) = false := decide_eq_false (by omega)
  have hlt := h.lt
  have hnum : ((o + 1 : Nat) : Int) = (o : Int) + 1 := by omega
  rw [hnum] at HR HK
  clear h hnum
  go_enter Tryd.func72, Tryd.ntmps72
  go_wp2_with fail
  go_end0
  exact ⟨rfl, HR.out, HK.out⟩
set_option maxHeartbeats 1600000 in
theorem leave_any {g o : Nat} {L : List Tok} (w : World) (h : Rdr w g L (o + 1)) (ho : o < 1000) :
    Calls Tryd.prog 73 #[.pointer (some ⟨g, 0, none⟩)] w fun e w' => e = .returned (.tuple #[]) ∧ Rdr w' g L o ∧ Kg g w w' := by
  have HR : Hid (Rdr (w.setCell ⟨g, 1, none⟩ (.int .i64 (o : Int))) g L o) := h.open_
  have HK : Hid (Kg g w (w.setCell ⟨g, 1, none⟩ (.int .i64 (o : Int)))) := kg_open _
  obtain ⟨A, c, h⟩ := h
  obtain ⟨d0, d1⟩ := cells2 h.blk
  have uf := Lib.frozen_of_heap h.blk
  have hlt := h.lt
  have hnum : ((o + 1 : Nat) : Int) - 1 = (o : Int) := by omega
  generalize ((o + 1 : Nat) : Int) = o1 at *
  have ho1 : o1 = (o : Int) + 1 := by omega
  subst ho1
  have hsub : (o : Int) + 1 - 1 = o := by omega
  clear h hnum
  go_enter Tryd.func73, Tryd.ntmps73
  go_wp2_with fail
  go_end0
  exact ⟨rfl, HR.out, HK.out⟩
end Go.Proofs.YtmkhfcdjgdofnaaDoor
