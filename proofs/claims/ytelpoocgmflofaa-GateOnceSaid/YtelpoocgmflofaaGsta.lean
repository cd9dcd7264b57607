/- A law's start: a circuit with some INPUTS, its edges and tables. -/
import Derived.Test.YtelpoocgmflofaaGmkr
namespace Go.Proofs.Ytelpoocgmflofaa
open Go.RowKit GatM

def startG : Nat → Gs
  | 0 => [(0, 0)]
  | n + 1 => startG n ++ [(0, 0)]
def startE : Nat → List Nat
  | 0 => [0, 1]
  | n + 1 => startE n ++ [2 * (startG n).length]
def startT : Nat → List Nat
  | 0 => [0, 18446744073709551615]
  | n + 1 => startT n ++ [inpF n 64]
theorem startG_len : ∀ n, (startG n).length = n + 1
  | 0 => rfl
  | n + 1 => by show (startG n ++ [(0, 0)]).length = _; simp [startG_len n]
theorem startE_len : ∀ n, (startE n).length = n + 2
  | 0 => rfl
  | n + 1 => by show (startE n ++ [_]).length = _; simp [startE_len n]
theorem startT_len : ∀ n, (startT n).length = n + 2
  | 0 => rfl
  | n + 1 => by show (startT n ++ [_]).length = _; simp [startT_len n]
/-- Where start has come to: j INPUTS. -/
def StAt (w : World) (bk j : Nat) (wr : World) : Prop := ∃ k c, k.bk = bk ∧ Mkr w.heap.size w wr k c (startG j) (startE j) (startT j)
theorem st_first {w w1 : World} {c : GrC} (h : LvG w.heap.size w w1 c [(0, 0)]) {W : World}
    (hW : W = ((w1.alloc (.cells #[.int .u32 0, .int .u32 1] 25)).alloc (.cells #[.int .u64 0, .int .u64 18446744073709551615] 99)).alloc (.cells #[.pointer (some ⟨c.bg, 0, none⟩), .slice (some ⟨w1.heap.size, 0, none⟩) 2 2, .slice (some ⟨w1.heap.size + 1, 0, none⟩) 2 2] 65)) :
    StAt w (w1.heap.size + 2) 0 W := by
  have r1 : RowV 25 1 (w1.alloc (.cells #[.int .u32 0, .int .u32 1] 25)) w1.heap.size 2 2 (numF .u32 [0, 1]) := RowV.made (by omega) rfl fun j hj => by
    rcases (show j = 0 ∨ j = 1 by omega) with q | q <;> subst q <;> rfl
  have r2 : RowV 99 1 ((w1.alloc (.cells #[.int .u32 0, .int .u32 1] 25)).alloc (.cells #[.int .u64 0, .int .u64 18446744073709551615] 99)) (w1.heap.size + 1) 2 2 (numF .u64 [0, 18446744073709551615]) := by
    have := RowV.made (T := 99) (k := 1) (w := w1.alloc (.cells #[.int .u32 0, .int .u32 1] 25)) (n := 2) (C := #[.int .u64 0, .int .u64 18446744073709551615]) (f := numF .u64 [0, 18446744073709551615]) (by omega) rfl fun j hj => by
      rcases (show j = 0 ∨ j = 1 by omega) with q | q <;> subst q <;> rfl
    simpa using this
  have hbw : Below w1.heap.size w1 W := by
    rw [hW]
    exact (((Below.refl _ _).alloc (Nat.le_refl _) _).alloc (by simp) _).alloc (by simp; omega) _
  have hB := h.hB
  refine ⟨⟨w1.heap.size + 2, some ⟨w1.heap.size, 0, none⟩, 2, some ⟨w1.heap.size + 1, 0, none⟩, 2⟩, c, rfl, h.below hbw, ⟨?_, ?_, ?_⟩, fun j hj => ?_⟩
  · show W.heap[w1.heap.size + 1 + 1]? = _
    rw [hW]
    have := blk_new ((w1.alloc (.cells #[.int .u32 0, .int .u32 1] 25)).alloc (.cells #[.int .u64 0, .int .u64 18446744073709551615] 99)) (.cells #[.pointer (some ⟨c.bg, 0, none⟩), .slice (some ⟨w1.heap.size, 0, none⟩) 2 2, .slice (some ⟨w1.heap.size + 1, 0, none⟩) 2 2] 65)
    simpa [startE, startT] using this
  · exact .inr ⟨_, rfl, by rw [hW]; exact (r1.alloc _).alloc _⟩
  · exact .inr ⟨_, rfl, by rw [hW]; exact r2.alloc _⟩
  · have hge : w1.heap.size ≤ j := by
      rcases hj with e | e | e
      · rw [e]; show _ ≤ w1.heap.size + 2; omega
      · have e : onB (some ⟨w1.heap.size, 0, none⟩) j := e
        rw [onB_some] at e
        exact Nat.le_of_eq e.symm
      · have e : onB (some ⟨w1.heap.size + 1, 0, none⟩) j := e
        rw [onB_some] at e
        have e : j = w1.heap.size + 1 := e
        omega
    exact ⟨fun ho => by have := h.at_.lt ho; omega, Nat.le_trans hB hge⟩
set_option maxHeartbeats 6400000 in
set_option maxRecDepth 100000 in
theorem gstart_any (n : Nat) (hn : n ≤ 6) (w : World) : Calls Try.prog 30 #[.int .i64 (n : Int)] w fun e w' => ∃ bk, e = .returned (.pointer (some ⟨bk, 0, none⟩)) ∧ StAt w bk n w' := by
  go_enter Try.func30, Try.ntmps30
  go_wp2_with fail
  refine (gnew_any w).mono ?_
  intro e w1 hN
  obtain ⟨c0, rfl, h1⟩ := LvG.new hN (Below.refl w.heap.size w) (Nat.le_refl _)
  obtain ⟨W, hW⟩ : ∃ W, W = ((w1.alloc (.cells #[.int .u32 0, .int .u32 1] 25)).alloc (.cells #[.int .u64 0, .int .u64 18446744073709551615] 99)).alloc (.cells #[.pointer (some ⟨c0.bg, 0, none⟩), .slice (some ⟨w1.heap.size, 0, none⟩) 2 2, .slice (some ⟨w1.heap.size + 1, 0, none⟩) 2 2] 65) := ⟨_, rfl⟩
  have HS := Lib.hid (st_first h1 hW)
  have HW := Lib.hid hW
  clear hN h1 hW
  go_wp2_with fail
  rw [← HW.out]
  go_loopw [4] (fun i wr => ∃ j : Nat, i = .int .i64 (j : Int) ∧ j ≤ n ∧ Hid (StAt w (w1.heap.size + 2) j wr)) (fun i _ => n - (intOf i).toNat)
  case atStart => exact ⟨0, rfl, Nat.zero_le _, HS⟩
  case round =>
    obtain ⟨j, rfl, hj, hS⟩ := hrel
    clear HS HW
    generalize w1.heap.size + 2 = bk at *
    by_cases hlt : j < n
    · have tk : decide ((j : Int) < (n : Int)) = true := decide_eq_true (by omega)
      have tk2 : decide (j < n) = true := decide_eq_true hlt
      obtain ⟨k, c, hbk, hM⟩ := hS.out
      subst hbk
      obtain ⟨x0, _, _, _⟩ := hM.mk'.cells
      have HI := Lib.hid (hM.lv.input (by rw [startG_len]; omega))
      have hgl : (startG j).length ≤ 100 := by rw [startG_len]; omega
      have hel : (startE j).length ≤ 100 := by rw [startE_len]; omega
      have htl : (startT j).length ≤ 100 := by rw [startT_len]; omega
      have HGR := Lib.hid fun w2 c2 (hT : LvTo w.heap.size w wr w2 c c2 (startG j ++ [(0, 0)])) => hM.graph hT
      have HIN := Lib.hid fun W => tinput_any j (by omega) W
      have HSE : Hid (startE j ++ [2 * (startG j).length] = startE (j + 1)) := rfl
      have HST : Hid (startT j ++ [inpF j 64] = startT (j + 1)) := rfl
      have HSG : Hid (startG j ++ [(0, 0)] = startG (j + 1)) := rfl
      clear hM hS
      generalize startG j = G at *
      generalize hE : startE j = E at *
      generalize hTT : startT j = T at *
      generalize inpF j 64 = t at *
      clear hE hTT
      go_wp2_with fail
      refine HI.out.mono ?_
      rintro e w2 ⟨rfl, c2, hT2⟩
      have h2 := HGR.out w2 c2 hT2
      obtain ⟨_, x1, _, _⟩ := h2.at_.mk'.cells
      have hkl : k.bk < w2.heap.size := h2.at_.mk'.lt (.inl rfl)
      have hb3 : Below w2.heap.size w2 (w2.alloc (.cells #[.int .u32 (2 * (G.length : Int))] 25)) := (Below.refl _ _).alloc (Nat.le_refl _) _
      have HSL : Hid (SlV 25 1 (w2.alloc (.cells #[.int .u32 (2 * (G.length : Int))] 25)) k.Ae E.length k.ce (numF .u32 E)) := SlV.below h2.at_.mk'.er hb3
      have HPE : Hid (∀ w4 g4 c4, RowV 25 1 w4 g4 (E.length + 1) c4 (appV (numF .u32 E) E.length [.int .u32 (2 * (G.length : Int))]) → (onB k.Ae g4 ∨ (w2.alloc (.cells #[.int .u32 (2 * (G.length : Int))] 25)).heap.size ≤ g4) → Kf (fun j => onB k.Ae j) (w2.alloc (.cells #[.int .u32 (2 * (G.length : Int))] 25)) w4 →
          w4.cell? ⟨k.bk, 1, none⟩ = some (.slice k.Ae E.length k.ce) ∧ w4.frozen? ⟨k.bk, 1, none⟩ = false ∧ MkrTo w.heap.size w w2 (w4.setCell ⟨k.bk, 1, none⟩ (.slice (some ⟨g4, 0, none⟩) (E.length + 1) c4)) k { k with Ae := some ⟨g4, 0, none⟩, ce := c4 } c2 c2 (G ++ [(0, 0)]) (E ++ [2 * G.length]) T) := fun w4 g4 c4 a1 a2 a3 => by
        rw [show (2 * (G.length : Int)) = ((2 * G.length : Nat) : Int) by omega] at a1 a2 a3
        obtain ⟨⟨p1, p2⟩, p3⟩ := h2.at_.addE ((Below.refl _ _).alloc (Nat.le_refl _) _) a1 a2 a3
        exact ⟨p1, p2, p3⟩
      clear h2 hT2 hb3 HGR HI x0
      go_wp2_with (at_builtin; refine wpList_append_sl _ rfl _ _ 26 25 rfl Try.underlying26 info_edge rfl (by decide) (by decide) k.Ae E.length k.ce (numF .u32 E) rfl HSL.out (by omega) ⟨w2.heap.size, 0, none⟩ 1 1 [.int .u32 (2 * (G.length : Int))] rfl rfl (box_news w2 25 _) (by simp [Value.oneCell']) (by omega) (by omega) ?_)
      intro g3 c3 w3 hr3 hg3 hk3
      obtain ⟨d0, d2, hF⟩ := HPE.out w3 g3 c3 (by simpa using hr3) (by rcases hg3 with e | e; exact .inl e; exact .inr (by simpa using e)) (hk3 _ fun j hj => hj)
      obtain ⟨w4, hw4⟩ : ∃ w4, w4 = w3.setCell ⟨k.bk, 1, none⟩ (.slice (some ⟨g3, 0, none⟩) (E.length + 1) c3) := ⟨_, rfl⟩
      rw [← hw4] at hF
      have HF := Lib.hid hF
      have HW4 := Lib.hid hw4
      clear hr3 hg3 hk3 HPE HSL hF hw4 x1
      go_upto_region 9 with (fail)
      rw [← HW4.out]
      clear d0 d2 HW4
      obtain ⟨k2, hk2⟩ : ∃ k2 : MkrC, k2 = { k with Ae := some ⟨g3, 0, none⟩, ce := c3 } := ⟨_, rfl⟩
      have h4 := HF.out.at_
      rw [← hk2] at h4
      have hbk2 : k2.bk = k.bk := by rw [hk2]
      obtain ⟨_, _, x2, _⟩ := h4.mk'.cells
      rw [hbk2] at x2
      obtain ⟨Tn, hTn⟩ : ∃ Tn, Tn = T.length := ⟨_, rfl⟩
      have hk4 : k.bk < w4.heap.size := by rw [← hbk2]; exact h4.mk'.lt (.inl rfl)
      have hb5 : Below w4.heap.size w4 (w4.drew.alloc (.cells #[.int .u64 (t : Int)] 99)) := (Below.refl w4.heap.size w4).drew.alloc (Nat.le_refl _) _
      have HSL : Hid (SlV 99 1 (w4.drew.alloc (.cells #[.int .u64 (t : Int)] 99)) k2.At Tn k2.ct (numF .u64 T)) := by rw [hTn]; exact SlV.below h4.mk'.tr hb5
      have HNW : Hid (∀ j u, [(.int .u64 (t : Int) : Value)][j]? = some u → (w4.drew.alloc (.cells #[.int .u64 (t : Int)] 99)).cell? ((⟨w4.heap.size, 0, none⟩ : Addr).add j) = some u) := box_news w4.drew 99 _
      have HPU : Hid (∀ w5 g5 c5, RowV 99 1 w5 g5 (Tn + 1) c5 (appV (numF .u64 T) Tn [.int .u64 (t : Int)]) → (onB k2.At g5 ∨ (w4.drew.alloc (.cells #[.int .u64 (t : Int)] 99)).heap.size ≤ g5) → Kf (fun j => onB k2.At j) (w4.drew.alloc (.cells #[.int .u64 (t : Int)] 99)) w5 →
          w5.cell? ⟨k.bk, 2, none⟩ = some (.slice k2.At Tn k2.ct) ∧ w5.frozen? ⟨k.bk, 2, none⟩ = false ∧ StAt w k.bk (j + 1) (w5.setCell ⟨k.bk, 2, none⟩ (.slice (some ⟨g5, 0, none⟩) (Tn + 1) c5))) := fun w5 g5 c5 a1 a2 a3 => by
        subst hTn
        obtain ⟨⟨p1, p2⟩, p3⟩ := h4.addT hb5 a1 a2 a3
        rw [hbk2] at p1 p2 p3
        exact ⟨p1, p2, ⟨k.bk, k2.Ae, k2.ce, some ⟨g5, 0, none⟩, c5⟩, c2, rfl, by rw [← HSG.out, ← HSE.out, ← HST.out]; exact p3.at_⟩
      rw [← hTn] at x2
      have hTn2 : Tn ≤ 100 := by omega
      clear h4 hb5 HF hbk2 htl hel hgl hTn hk2
      go_upto_region 9 with (fail)
      refine wp_region_any (by kernel_rfl) ?_
      change wpAny _ _ _ _ _ _ _ (World.drew _)
      refine wpAny_take (i := 0) (v := ?_) rfl (by kernel_rfl) (by kernel_rfl) (by kernel_rfl) (fun _ _ _ h => h) (Or.inl ⟨by kernel_rfl, ?_⟩) ?_
      rotate_left 1
      · (intro w; go_simp <;> with_reducible rfl)
      go_simp
      refine wpAny_take (i := 1) (v := ?_) rfl (by kernel_rfl) (by kernel_rfl) (by kernel_rfl) (fun _ _ _ h => h) (Or.inl ⟨by kernel_rfl, ?_⟩) ?_
      rotate_left 1
      · (intro w; go_simp <;> with_reducible rfl)
      go_simp
      refine wpAny_take (i := 2) (v := ?_) rfl (by kernel_rfl) (by kernel_rfl) (by kernel_rfl) (fun _ _ _ h => h) (Or.inl ⟨by kernel_rfl, ?_⟩) ?_
      rotate_left 1
      · (intro w; go_simp <;> with_reducible rfl)
      go_simp
      refine wpAny_take (i := 3) (v := ?_) rfl (by kernel_rfl) (by kernel_rfl) (by kernel_rfl) (fun _ _ _ h => h) (Or.inl ⟨by kernel_rfl, ?_⟩) ?_
      rotate_left 1
      · (intro w; go_simp <;> with_reducible rfl)
      go_simp
      refine wpAny_take (i := 5) (v := ?_) rfl (by kernel_rfl) (by kernel_rfl) (by kernel_rfl) (fun _ _ _ h => h) (Or.inl ⟨by kernel_rfl, ?_⟩) ?_
      rotate_left 1
      · (intro w; go_simp <;> with_reducible rfl)
      go_simp
      refine wpAny_ready (rs := [4, 6]) (by kernel_rfl) (by simp) ?_
      refine AllReady.cons rfl (fun K hK => ?_) ?_
      ·
        go_simp
        refine hK _ _ ?_; clear hK K
        refine wpAny_ready (rs := [6]) (by kernel_rfl) (by simp) ?_
        refine AllReady.cons rfl (fun K hK => ?_) ?_
        ·
          go_simp
          go_wp2_with (go_at_call 55; refine (HIN.out _).mono ?_; rintro e w' ⟨rfl, rfl⟩)
          first | (refine hK _ _ ?_; clear hK K) | skip
          refine wpAny_ready (rs := [7]) (by kernel_rfl) (by simp) ?_
          refine AllReady.cons rfl (fun K hK => ?_) ?_
          ·
            go_simp
            refine hK _ _ ?_; clear hK K
            refine wpAny_ready (rs := [8]) (by kernel_rfl) (by simp) ?_
            refine AllReady.cons rfl (fun K hK => ?_) ?_
            ·
              refine step_append_sl _ rfl _ _ 63 99 rfl Try.underlying63 info_u64 rfl (by decide) (by decide) k2.At Tn k2.ct (numF .u64 T) rfl HSL.out (by omega) ⟨w4.heap.size, 0, none⟩ 1 1 [.int .u64 (t : Int)] rfl rfl HNW.out (by simp [Value.oneCell']) (by omega) (by omega) ?_
              intro g5 c5 w5 hr5 hg5 hk5
              obtain ⟨d0, d1, hF⟩ := HPU.out w5 g5 c5 (by simpa using hr5) (by rcases hg5 with e | e; exact .inl e; exact .inr (by simpa using e)) (hk5 _ fun j hj => hj)
              refine hK _ _ ?_; clear hK K
              refine wpAny_take (i := 9) (v := ?_) rfl (by kernel_rfl) (by kernel_rfl) (by kernel_rfl) (fun _ _ _ h => h) (Or.inl ⟨by kernel_rfl, ?_⟩) ?_
              rotate_left 1
              · (intro w; go_simp <;> with_reducible rfl)
              go_simp
              refine wpAny_take (i := 10) (v := ?_) rfl (by kernel_rfl) (by kernel_rfl) (by kernel_rfl) (fun _ _ _ h => h) (Or.inl ⟨by kernel_rfl, ?_⟩) ?_
              rotate_left 1
              · (intro w; go_simp <;> with_reducible rfl)
              go_simp
              refine wpAny_ready (rs := [11]) (by kernel_rfl) (by simp) ?_
              refine AllReady.cons rfl (fun K hK => ?_) ?_
              ·
                go_simp
                refine hK _ _ ?_; clear hK K
                refine wpAny_done (by kernel_rfl) ?_ _
                have HFin := Lib.hid hF
                clear hr5 hg5 hk5 d0 d1 hF
                go_wp2_with fail
                go_roundw
                case rel => exact ⟨j + 1, by go_num, by omega, HFin⟩
                case measure => simp [intOf]; omega
              exact AllReady.nil
            exact AllReady.nil
          exact AllReady.nil
        exact AllReady.nil
      refine AllReady.cons rfl (fun K hK => ?_) ?_
      ·
        go_simp
        go_wp2_with (go_at_call 55; refine (HIN.out _).mono ?_; rintro e w' ⟨rfl, rfl⟩)
        first | (refine hK _ _ ?_; clear hK K) | skip
        refine wpAny_ready (rs := [4, 7]) (by kernel_rfl) (by simp) ?_
        refine AllReady.cons rfl (fun K hK => ?_) ?_
        ·
          go_simp
          refine hK _ _ ?_; clear hK K
          refine wpAny_ready (rs := [7]) (by kernel_rfl) (by simp) ?_
          refine AllReady.cons rfl (fun K hK => ?_) ?_
          ·
            go_simp
            refine hK _ _ ?_; clear hK K
            refine wpAny_ready (rs := [8]) (by kernel_rfl) (by simp) ?_
            refine AllReady.cons rfl (fun K hK => ?_) ?_
            ·
              refine step_append_sl _ rfl _ _ 63 99 rfl Try.underlying63 info_u64 rfl (by decide) (by decide) k2.At Tn k2.ct (numF .u64 T) rfl HSL.out (by omega) ⟨w4.heap.size, 0, none⟩ 1 1 [.int .u64 (t : Int)] rfl rfl HNW.out (by simp [Value.oneCell']) (by omega) (by omega) ?_
              intro g5 c5 w5 hr5 hg5 hk5
              obtain ⟨d0, d1, hF⟩ := HPU.out w5 g5 c5 (by simpa using hr5) (by rcases hg5 with e | e; exact .inl e; exact .inr (by simpa using e)) (hk5 _ fun j hj => hj)
              refine hK _ _ ?_; clear hK K
              refine wpAny_take (i := 9) (v := ?_) rfl (by kernel_rfl) (by kernel_rfl) (by kernel_rfl) (fun _ _ _ h => h) (Or.inl ⟨by kernel_rfl, ?_⟩) ?_
              rotate_left 1
              · (intro w; go_simp <;> with_reducible rfl)
              go_simp
              refine wpAny_take (i := 10) (v := ?_) rfl (by kernel_rfl) (by kernel_rfl) (by kernel_rfl) (fun _ _ _ h => h) (Or.inl ⟨by kernel_rfl, ?_⟩) ?_
              rotate_left 1
              · (intro w; go_simp <;> with_reducible rfl)
              go_simp
              refine wpAny_ready (rs := [11]) (by kernel_rfl) (by simp) ?_
              refine AllReady.cons rfl (fun K hK => ?_) ?_
              ·
                go_simp
                refine hK _ _ ?_; clear hK K
                refine wpAny_done (by kernel_rfl) ?_ _
                have HFin := Lib.hid hF
                clear hr5 hg5 hk5 d0 d1 hF
                go_wp2_with fail
                go_roundw
                case rel => exact ⟨j + 1, by go_num, by omega, HFin⟩
                case measure => simp [intOf]; omega
              exact AllReady.nil
            exact AllReady.nil
          exact AllReady.nil
        refine AllReady.cons rfl (fun K hK => ?_) ?_
        ·
          go_simp
          refine hK _ _ ?_; clear hK K
          refine wpAny_ready (rs := [4]) (by kernel_rfl) (by simp) ?_
          refine AllReady.cons rfl (fun K hK => ?_) ?_
          ·
            go_simp
            refine hK _ _ ?_; clear hK K
            refine wpAny_ready (rs := [8]) (by kernel_rfl) (by simp) ?_
            refine AllReady.cons rfl (fun K hK => ?_) ?_
            ·
              refine step_append_sl _ rfl _ _ 63 99 rfl Try.underlying63 info_u64 rfl (by decide) (by decide) k2.At Tn k2.ct (numF .u64 T) rfl HSL.out (by omega) ⟨w4.heap.size, 0, none⟩ 1 1 [.int .u64 (t : Int)] rfl rfl HNW.out (by simp [Value.oneCell']) (by omega) (by omega) ?_
              intro g5 c5 w5 hr5 hg5 hk5
              obtain ⟨d0, d1, hF⟩ := HPU.out w5 g5 c5 (by simpa using hr5) (by rcases hg5 with e | e; exact .inl e; exact .inr (by simpa using e)) (hk5 _ fun j hj => hj)
              refine hK _ _ ?_; clear hK K
              refine wpAny_take (i := 9) (v := ?_) rfl (by kernel_rfl) (by kernel_rfl) (by kernel_rfl) (fun _ _ _ h => h) (Or.inl ⟨by kernel_rfl, ?_⟩) ?_
              rotate_left 1
              · (intro w; go_simp <;> with_reducible rfl)
              go_simp
              refine wpAny_take (i := 10) (v := ?_) rfl (by kernel_rfl) (by kernel_rfl) (by kernel_rfl) (fun _ _ _ h => h) (Or.inl ⟨by kernel_rfl, ?_⟩) ?_
              rotate_left 1
              · (intro w; go_simp <;> with_reducible rfl)
              go_simp
              refine wpAny_ready (rs := [11]) (by kernel_rfl) (by simp) ?_
              refine AllReady.cons rfl (fun K hK => ?_) ?_
              ·
                go_simp
                refine hK _ _ ?_; clear hK K
                refine wpAny_done (by kernel_rfl) ?_ _
                have HFin := Lib.hid hF
                clear hr5 hg5 hk5 d0 d1 hF
                go_wp2_with fail
                go_roundw
                case rel => exact ⟨j + 1, by go_num, by omega, HFin⟩
                case measure => simp [intOf]; omega
              exact AllReady.nil
            exact AllReady.nil
          exact AllReady.nil
        exact AllReady.nil
      exact AllReady.nil
    · have tk : decide ((j : Int) < (n : Int)) = false := decide_eq_false (by omega)
      have tk2 : decide (j < n) = false := decide_eq_false hlt
      obtain rfl : j = n := by omega
      go_wp2_with fail
      go_ret
      exact ⟨_, rfl, hS.out⟩
end Go.Proofs.Ytelpoocgmflofaa
