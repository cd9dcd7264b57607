/- Package word: skip. -/
import Derived.Test.YtmkhfcdjgdofnaaDoorWrdE
namespace Go.Proofs.YtmkhfcdjgdofnaaDoor
open Go.RowKit WrdM

/-- The cutter has gone over what counts for nothing. -/
def Sk (g : Nat) (r : List UInt8) (L C : Int) (A : Option Addr) (c : Nat) (ts : List Tok) (w : World) (r1 : List UInt8) (L1 C1 : Int) (wr : World) : Prop :=
  ∃ p, r = p ++ r1 ∧ adv L C p = (L1, C1) ∧ CtAt wr g r1 L1 C1 A c ts ∧ Below g w wr ∧ go 0 false L C r = go 0 false L1 C1 r1
section
variable {g : Nat} {r r1 : List UInt8} {L C L1 C1 : Int} {A : Option Addr} {c : Nat} {ts : List Tok} {w wr w' : World}
theorem Sk.start (h : CtAt w g r L C A c ts) : Sk g r L C A c ts w r L C w := ⟨[], rfl, rfl, h, Below.refl _ _, rfl⟩
theorem Sk.at_ (h : Sk g r L C A c ts w r1 L1 C1 wr) : CtAt wr g r1 L1 C1 A c ts := by obtain ⟨_, _, _, h, _⟩ := h; exact h
theorem Sk.bd (h : Sk g r L C A c ts w r1 L1 C1 wr) (hC : 1 ≤ C) : r1.length ≤ r.length ∧ L ≤ L1 ∧ 1 ≤ C1 ∧ L1 + r1.length ≤ L + r.length ∧ C1 + r1.length ≤ C + r.length := by
  obtain ⟨p, h1, h2, _⟩ := h
  have := adv_bd p L C hC
  rw [h2] at this
  rw [h1, List.length_append]
  simp only at this
  omega
theorem Sk.blk (h : Sk g r L C A c ts w r1 L1 C1 wr) (w' : World) (ha : CtAt w' g (r1.dropWhile blkB) (adv L1 C1 (r1.takeWhile blkB)).1 (adv L1 C1 (r1.takeWhile blkB)).2 A c ts) (hb : Below g wr w') :
    Sk g r L C A c ts w (r1.dropWhile blkB) (adv L1 C1 (r1.takeWhile blkB)).1 (adv L1 C1 (r1.takeWhile blkB)).2 w' := by
  obtain ⟨p, h1, h2, h3, h4, h5⟩ := h
  refine ⟨p ++ r1.takeWhile blkB, by rw [List.append_assoc, List.takeWhile_append_dropWhile]; exact h1, by rw [adv_app, h2], ha, h4.trans (hb.mono (Nat.le_refl _)), ?_⟩
  rw [h5]
  conv => lhs; rw [← List.takeWhile_append_dropWhile (p := blkB) (l := r1)]
  exact go_blk _ _ _ _ (takeW_all _ _)
theorem Sk.rem (h : Sk g r L C A c ts w r1 L1 C1 wr) (hr : rem2 r1 = true) (w' : World) (ha : CtAt w' g (r1.dropWhile (fun c => !(c == 10))) (adv L1 C1 (r1.takeWhile (fun c => !(c == 10)))).1 (adv L1 C1 (r1.takeWhile (fun c => !(c == 10)))).2 A c ts) (hb : Below g wr w') :
    Sk g r L C A c ts w (r1.dropWhile (fun c => !(c == 10))) (adv L1 C1 (r1.takeWhile (fun c => !(c == 10)))).1 (adv L1 C1 (r1.takeWhile (fun c => !(c == 10)))).2 w' := by
  obtain ⟨p, h1, h2, h3, h4, h5⟩ := h
  refine ⟨p ++ r1.takeWhile (fun c => !(c == 10)), by rw [List.append_assoc, List.takeWhile_append_dropWhile]; exact h1, by rw [adv_app, h2], ha, h4.trans (hb.mono (Nat.le_refl _)), ?_⟩
  rw [h5, go_rem2 r1 L1 C1 hr]
  conv => lhs; rw [← List.takeWhile_append_dropWhile (p := (fun c => !(c == 10))) (l := r1)]
  rw [go_rem _ _ _ _ (takeW_all _ _)]
  exact go_end _ _ _ (dropW_head _ _)
end
theorem rem_len {r : List UInt8} (h : rem2 r = true) : (r.dropWhile (fun c => !(c == 10))).length < r.length := by
  cases r with
  | nil => simp [rem2, List.isPrefixOf] at h
  | cons c cs =>
    have h0 := (rem2_cons h).1
    subst h0
    rw [List.dropWhile_cons, if_pos (by decide)]
    exact Nat.lt_succ_of_le (List.dropWhile_sublist _).length_le
theorem box_new {wr : World} {g : Nat} {r1 : List UInt8} {L1 C1 : Int} {A : Option Addr} {c : Nat} {ts : List Tok} (h : CtAt wr g r1 L1 C1 A c ts) (x : ByteArray) (w1 : World) (hw : wr.drew.alloc (.cells #[.string x] 9) = w1) :
    CtAt w1 g r1 L1 C1 A c ts ∧ w1.cell? ⟨wr.heap.size, 0, none⟩ = some (.string x) ∧ Below g wr w1 := by
  subst hw
  have hb : Below wr.heap.size wr (wr.drew.alloc (.cells #[.string x] 9)) := (Below.drew (Below.refl _ _)).alloc (Nat.le_refl _) _
  exact ⟨h.below hb (Nat.le_refl _), cell_box _ _ _, hb.mono (by have := h.lt; omega)⟩

set_option maxHeartbeats 3200000 in
theorem skip_any {g : Nat} {r : List UInt8} {L C : Int} {A : Option Addr} {c : Nat} {ts : List Tok} (w : World) (h : CtAt w g r L C A c ts)
    (hL0 : 0 ≤ L) (hC0 : 1 ≤ C) (hL : L + r.length ≤ 70000) (hC : C + r.length ≤ 70000) :
    Calls Tryd.prog 42 #[.pointer (some ⟨g, 0, none⟩)] w fun e w' => e = .returned (.tuple #[]) ∧ ∃ r1 L1 C1, Sk g r L C A c ts w r1 L1 C1 w' ∧ headB blkB r1 = false ∧ rem2 r1 = false := by
  have HK := Lib.hid (Sk.start h)
  have HN := Lib.hid (box_new h ⟨#[32, 9, 10]⟩)
  have d0 : (World.drew w).cell? ⟨g, 0, none⟩ = some (.string ⟨r.toArray⟩) := (wcel4 h.blk).1
  clear h
  go_enter Tryd.func42, Tryd.ntmps42
  go_wp2_with fail
  go_cut [] (fun wx => ∃ r1 L1 C1, Sk g r L C A c ts w r1 L1 C1 wx ∧ headB blkB r1 = false)
  case first =>
    refine wp_region_any (by kernel_rfl) ?_
    change wpAny _ _ _ _ _ _ _ (World.drew _)
    refine wpAny_take (i := 0) (v := ?_) rfl (by kernel_rfl) (by kernel_rfl) (by kernel_rfl) (fun _ _ _ h => h) (Or.inl ⟨by kernel_rfl, ?_⟩) ?_
    rotate_left 1
    · (intro w; go_simp <;> with_reducible rfl)
    go_simp
    refine wpAny_take (i := 1) (v := ?_) rfl (by kernel_rfl) (by kernel_rfl) (by kernel_rfl) (fun _ _ _ h => h) (Or.inl ⟨by kernel_rfl, ?_⟩) ?_
    rotate_left 1
    · (intro w; go_simp <;> with_reducible rfl)
    go_simp
    refine wpAny_take (i := 2) (v := ?_) rfl (by kernel_rfl) (by kernel_rfl) (by kernel_rfl) (fun _ _ _ h => h) (Or.inl ⟨by kernel_rfl, ?_⟩) ?_
    rotate_left 1
    · (intro w; go_simp <;> with_reducible rfl)
    go_simp
    refine wpAny_take (i := 3) (v := ?_) rfl (by kernel_rfl) (by kernel_rfl) (by kernel_rfl) (fun _ _ _ h => h) (Or.inl ⟨by kernel_rfl, ?_⟩) ?_
    rotate_left 1
    · (intro w; go_simp <;> with_reducible rfl)
    go_simp
    refine wpAny_ready (rs := [4, 5]) (by kernel_rfl) (by simp) ?_
    refine AllReady.cons rfl (fun K hK => ?_) ?_
    ·
      go_simp
      refine hK _ _ ?_; clear hK K
      refine wpAny_ready (rs := [5]) (by kernel_rfl) (by simp) ?_
      refine AllReady.cons rfl (fun K hK => ?_) ?_
      ·
        go_simp
        go_at_call 63
        refine (oneOf_any ⟨#[32, 9, 10]⟩ _).mono ?_
        rintro e w1 ⟨rfl, hw1⟩
        obtain ⟨hA1, hbx, hB1⟩ := HN.out w1 hw1
        have d0 := (wcel4 hA1.blk).1
        have HF1 := Lib.hid (firstIn_any [32, 9, 10] r w.heap.size w1 hbx (by omega))
        rw [blkS_eq] at HF1
        have HP1 := Lib.hid (pass_any (r := r.dropWhile blkB) (r.takeWhile blkB) w1 (by rw [List.takeWhile_append_dropWhile]; exact hA1) (Nat.le_trans (List.takeWhile_sublist _).length_le (by omega)) (by omega) (by omega) (by omega) (by omega))
        have HB1 := Lib.hid hB1
        clear hw1 hA1 hbx hB1
        refine hK _ _ ?_; clear hK K
        refine wpAny_ready (rs := [6]) (by kernel_rfl) (by simp) ?_
        refine AllReady.cons rfl (fun K hK => ?_) ?_
        ·
          go_simp
          go_at_call 62
          refine HF1.out.mono ?_
          rintro e w' ⟨rfl, rfl⟩
          refine hK _ _ ?_; clear hK K
          refine wpAny_ready (rs := [7]) (by kernel_rfl) (by simp) ?_
          refine AllReady.cons rfl (fun K hK => ?_) ?_
          ·
            go_simp
            go_at_call 61
            refine HP1.out.mono ?_
            rintro e w2 ⟨rfl, hA2, hB2⟩
            have HS2 := Lib.hid (Sk.blk HK.out w2 hA2 (HB1.out.trans (hB2.mono (Nat.le_refl _))))
            clear hA2 hB2
            refine hK _ _ ?_; clear hK K
            refine wpAny_done (by kernel_rfl) ?_ _
            go_wp2_with fail
            go_meet
            exact ⟨_, _, _, HS2.out, dropW_head _ _⟩
          exact AllReady.nil
        exact AllReady.nil
      exact AllReady.nil
    refine AllReady.cons rfl (fun K hK => ?_) ?_
    ·
      go_simp
      go_at_call 63
      refine (oneOf_any ⟨#[32, 9, 10]⟩ _).mono ?_
      rintro e w1 ⟨rfl, hw1⟩
      obtain ⟨hA1, hbx, hB1⟩ := HN.out w1 hw1
      have d0 := (wcel4 hA1.blk).1
      have HF1 := Lib.hid (firstIn_any [32, 9, 10] r w.heap.size w1 hbx (by omega))
      rw [blkS_eq] at HF1
      have HP1 := Lib.hid (pass_any (r := r.dropWhile blkB) (r.takeWhile blkB) w1 (by rw [List.takeWhile_append_dropWhile]; exact hA1) (Nat.le_trans (List.takeWhile_sublist _).length_le (by omega)) (by omega) (by omega) (by omega) (by omega))
      have HB1 := Lib.hid hB1
      clear hw1 hA1 hbx hB1
      refine hK _ _ ?_; clear hK K
      refine wpAny_ready (rs := [4]) (by kernel_rfl) (by simp) ?_
      refine AllReady.cons rfl (fun K hK => ?_) ?_
      ·
        go_simp
        refine hK _ _ ?_; clear hK K
        refine wpAny_ready (rs := [6]) (by kernel_rfl) (by simp) ?_
        refine AllReady.cons rfl (fun K hK => ?_) ?_
        ·
          go_simp
          go_at_call 62
          refine HF1.out.mono ?_
          rintro e w' ⟨rfl, rfl⟩
          refine hK _ _ ?_; clear hK K
          refine wpAny_ready (rs := [7]) (by kernel_rfl) (by simp) ?_
          refine AllReady.cons rfl (fun K hK => ?_) ?_
          ·
            go_simp
            go_at_call 61
            refine HP1.out.mono ?_
            rintro e w2 ⟨rfl, hA2, hB2⟩
            have HS2 := Lib.hid (Sk.blk HK.out w2 hA2 (HB1.out.trans (hB2.mono (Nat.le_refl _))))
            clear hA2 hB2
            refine hK _ _ ?_; clear hK K
            refine wpAny_done (by kernel_rfl) ?_ _
            go_wp2_with fail
            go_meet
            exact ⟨_, _, _, HS2.out, dropW_head _ _⟩
          exact AllReady.nil
        exact AllReady.nil
      exact AllReady.nil
    exact AllReady.nil
  case rest =>
    obtain ⟨ra, La, Ca, hKa, hBa⟩ := hcut
    have HKa := Lib.hid hKa
    have HBa := Lib.hid hBa
    have hlen := (hKa.bd hC0).1
    clear HK HN d0 hKa hBa
    go_wp2_with fail
    go_loopg [] ra.length (fun gg wr => ∃ r1 L1 C1, Hid (Sk g r L C A c ts w r1 L1 C1 wr) ∧ Hid (headB blkB r1 = false) ∧ r1.length ≤ gg)
    case atStart => exact ⟨_, _, _, HKa, HBa, Nat.le_refl _⟩
    case round =>
      obtain ⟨r1, L1, C1, HK, HB, hgk⟩ := hrel
      clear HKa HBa hlen
      have hbd := HK.out.bd hC0
      have c0 := (wcel4 HK.out.at_.blk).1
      have hHP : Hid (Calls Tryd.prog 64 #[.string ⟨r1.toArray⟩, .string ⟨#[47, 47]⟩] wr fun e w' => e = .returned (.bool (rem2 r1)) ∧ wr = w') := hasPrefix_any r1 [47, 47] wr
      rcases hr : rem2 r1 with _ | _
      · rw [hr] at hHP
        have HR := Lib.hid hr
        clear hr
        go_wp2_with fail
        refine hHP.out.mono ?_
        rintro e w' ⟨rfl, rfl⟩
        go_wp2_with fail
        go_end0
        exact ⟨rfl, r1, L1, C1, HK.out, HB.out, HR.out⟩
      · rw [hr] at hHP
        have HR := Lib.hid hr
        have HLEN := Lib.hid (rem_len hr)
        have HN := Lib.hid (box_new HK.out.at_ ⟨#[10]⟩)
        have d0 : (World.drew wr).cell? ⟨g, 0, none⟩ = some (.string ⟨r1.toArray⟩) := c0
        obtain ⟨b1, b2, b3, b4, b5⟩ := hbd
        clear hr
        rcases gk with _ | gk
        · exfalso; have := HLEN.out; omega
        go_wp2_with fail
        refine hHP.out.mono ?_
        rintro e w' ⟨rfl, rfl⟩
        go_wp2_with fail
        go_cut [] (fun wx => ∃ r2 L2 C2, Sk g r L C A c ts w r2 L2 C2 wx ∧ r2.length < r1.length)
        case first =>
          refine wp_region_any (by kernel_rfl) ?_
          change wpAny _ _ _ _ _ _ _ (World.drew _)
          refine wpAny_take (i := 0) (v := ?_) rfl (by kernel_rfl) (by kernel_rfl) (by kernel_rfl) (fun _ _ _ h => h) (Or.inl ⟨by kernel_rfl, ?_⟩) ?_
          rotate_left 1
          · (intro w; go_simp <;> with_reducible rfl)
          go_simp
          refine wpAny_take (i := 1) (v := ?_) rfl (by kernel_rfl) (by kernel_rfl) (by kernel_rfl) (fun _ _ _ h => h) (Or.inl ⟨by kernel_rfl, ?_⟩) ?_
          rotate_left 1
          · (intro w; go_simp <;> with_reducible rfl)
          go_simp
          refine wpAny_take (i := 2) (v := ?_) rfl (by kernel_rfl) (by kernel_rfl) (by kernel_rfl) (fun _ _ _ h => h) (Or.inl ⟨by kernel_rfl, ?_⟩) ?_
          rotate_left 1
          · (intro w; go_simp <;> with_reducible rfl)
          go_simp
          refine wpAny_take (i := 3) (v := ?_) rfl (by kernel_rfl) (by kernel_rfl) (by kernel_rfl) (fun _ _ _ h => h) (Or.inl ⟨by kernel_rfl, ?_⟩) ?_
          rotate_left 1
          · (intro w; go_simp <;> with_reducible rfl)
          go_simp
          refine wpAny_ready (rs := [4, 5]) (by kernel_rfl) (by simp) ?_
          refine AllReady.cons rfl (fun K hK => ?_) ?_
          ·
            go_simp
            refine hK _ _ ?_; clear hK K
            refine wpAny_ready (rs := [5]) (by kernel_rfl) (by simp) ?_
            refine AllReady.cons rfl (fun K hK => ?_) ?_
            ·
              go_simp
              go_at_call 65
              refine (noneOf_any ⟨#[10]⟩ _).mono ?_
              rintro e w1 ⟨rfl, hw1⟩
              obtain ⟨hA1, hbx, hB1⟩ := HN.out w1 hw1
              have d0 := (wcel4 hA1.blk).1
              have HF1 := Lib.hid (firstOut_any [10] r1 wr.heap.size w1 hbx (by omega))
              rw [endS_eq] at HF1
              have HP1 := Lib.hid (pass_any (r := r1.dropWhile (fun c => !(c == 10))) (r1.takeWhile (fun c => !(c == 10))) w1 (by rw [List.takeWhile_append_dropWhile]; exact hA1) (Nat.le_trans (List.takeWhile_sublist _).length_le (by omega)) (by omega) (by omega) (by omega) (by omega))
              have HB1 := Lib.hid hB1
              clear hw1 hA1 hbx hB1
              refine hK _ _ ?_; clear hK K
              refine wpAny_ready (rs := [6]) (by kernel_rfl) (by simp) ?_
              refine AllReady.cons rfl (fun K hK => ?_) ?_
              ·
                go_simp
                go_at_call 62
                refine HF1.out.mono ?_
                rintro e w' ⟨rfl, rfl⟩
                refine hK _ _ ?_; clear hK K
                refine wpAny_ready (rs := [7]) (by kernel_rfl) (by simp) ?_
                refine AllReady.cons rfl (fun K hK => ?_) ?_
                ·
                  go_simp
                  go_at_call 61
                  refine HP1.out.mono ?_
                  rintro e w2 ⟨rfl, hA2, hB2⟩
                  have HS2 := Lib.hid (Sk.rem HK.out HR.out w2 hA2 (HB1.out.trans (hB2.mono (Nat.le_refl _))))
                  clear hA2 hB2
                  refine hK _ _ ?_; clear hK K
                  refine wpAny_done (by kernel_rfl) ?_ _
                  go_wp2_with fail
                  go_meet
                  exact ⟨_, _, _, HS2.out, HLEN.out⟩
                exact AllReady.nil
              exact AllReady.nil
            exact AllReady.nil
          refine AllReady.cons rfl (fun K hK => ?_) ?_
          ·
            go_simp
            go_at_call 65
            refine (noneOf_any ⟨#[10]⟩ _).mono ?_
            rintro e w1 ⟨rfl, hw1⟩
            obtain ⟨hA1, hbx, hB1⟩ := HN.out w1 hw1
            have d0 := (wcel4 hA1.blk).1
            have HF1 := Lib.hid (firstOut_any [10] r1 wr.heap.size w1 hbx (by omega))
            rw [endS_eq] at HF1
            have HP1 := Lib.hid (pass_any (r := r1.dropWhile (fun c => !(c == 10))) (r1.takeWhile (fun c => !(c == 10))) w1 (by rw [List.takeWhile_append_dropWhile]; exact hA1) (Nat.le_trans (List.takeWhile_sublist _).length_le (by omega)) (by omega) (by omega) (by omega) (by omega))
            have HB1 := Lib.hid hB1
            clear hw1 hA1 hbx hB1
            refine hK _ _ ?_; clear hK K
            refine wpAny_ready (rs := [4]) (by kernel_rfl) (by simp) ?_
            refine AllReady.cons rfl (fun K hK => ?_) ?_
            ·
              go_simp
              refine hK _ _ ?_; clear hK K
              refine wpAny_ready (rs := [6]) (by kernel_rfl) (by simp) ?_
              refine AllReady.cons rfl (fun K hK => ?_) ?_
              ·
                go_simp
                go_at_call 62
                refine HF1.out.mono ?_
                rintro e w' ⟨rfl, rfl⟩
                refine hK _ _ ?_; clear hK K
                refine wpAny_ready (rs := [7]) (by kernel_rfl) (by simp) ?_
                refine AllReady.cons rfl (fun K hK => ?_) ?_
                ·
                  go_simp
                  go_at_call 61
                  refine HP1.out.mono ?_
                  rintro e w2 ⟨rfl, hA2, hB2⟩
                  have HS2 := Lib.hid (Sk.rem HK.out HR.out w2 hA2 (HB1.out.trans (hB2.mono (Nat.le_refl _))))
                  clear hA2 hB2
                  refine hK _ _ ?_; clear hK K
                  refine wpAny_done (by kernel_rfl) ?_ _
                  go_wp2_with fail
                  go_meet
                  exact ⟨_, _, _, HS2.out, HLEN.out⟩
                exact AllReady.nil
              exact AllReady.nil
            exact AllReady.nil
          exact AllReady.nil
        case rest =>
        obtain ⟨r2, L2, C2, hK2, hlt⟩ := hcut
        have HK2 := Lib.hid hK2
        obtain ⟨b1, b2, b3, b4, b5⟩ := hK2.bd hC0
        have HN := Lib.hid (box_new hK2.at_ ⟨#[32, 9, 10]⟩)
        have d0 : (World.drew wc).cell? ⟨g, 0, none⟩ = some (.string ⟨r2.toArray⟩) := (wcel4 hK2.at_.blk).1
        clear hK2 HK HR HLEN hHP c0 HB
        go_wp2_with fail
        refine wp_region_any (by kernel_rfl) ?_
        change wpAny _ _ _ _ _ _ _ (World.drew _)
        refine wpAny_take (i := 0) (v := ?_) rfl (by kernel_rfl) (by kernel_rfl) (by kernel_rfl) (fun _ _ _ h => h) (Or.inl ⟨by kernel_rfl, ?_⟩) ?_
        rotate_left 1
        · (intro w; go_simp <;> with_reducible rfl)
        go_simp
        refine wpAny_take (i := 1) (v := ?_) rfl (by kernel_rfl) (by kernel_rfl) (by kernel_rfl) (fun _ _ _ h => h) (Or.inl ⟨by kernel_rfl, ?_⟩) ?_
        rotate_left 1
        · (intro w; go_simp <;> with_reducible rfl)
        go_simp
        refine wpAny_take (i := 2) (v := ?_) rfl (by kernel_rfl) (by kernel_rfl) (by kernel_rfl) (fun _ _ _ h => h) (Or.inl ⟨by kernel_rfl, ?_⟩) ?_
        rotate_left 1
        · (intro w; go_simp <;> with_reducible rfl)
        go_simp
        refine wpAny_take (i := 3) (v := ?_) rfl (by kernel_rfl) (by kernel_rfl) (by kernel_rfl) (fun _ _ _ h => h) (Or.inl ⟨by kernel_rfl, ?_⟩) ?_
        rotate_left 1
        · (intro w; go_simp <;> with_reducible rfl)
        go_simp
        refine wpAny_ready (rs := [4, 5]) (by kernel_rfl) (by simp) ?_
        refine AllReady.cons rfl (fun K hK => ?_) ?_
        ·
          go_simp
          refine hK _ _ ?_; clear hK K
          refine wpAny_ready (rs := [5]) (by kernel_rfl) (by simp) ?_
          refine AllReady.cons rfl (fun K hK => ?_) ?_
          ·
            go_simp
            go_at_call 63
            refine (oneOf_any ⟨#[32, 9, 10]⟩ _).mono ?_
            rintro e w1 ⟨rfl, hw1⟩
            obtain ⟨hA1, hbx, hB1⟩ := HN.out w1 hw1
            have d0 := (wcel4 hA1.blk).1
            have HF1 := Lib.hid (firstIn_any [32, 9, 10] r2 wc.heap.size w1 hbx (by omega))
            rw [blkS_eq] at HF1
            have HP1 := Lib.hid (pass_any (r := r2.dropWhile blkB) (r2.takeWhile blkB) w1 (by rw [List.takeWhile_append_dropWhile]; exact hA1) (Nat.le_trans (List.takeWhile_sublist _).length_le (by omega)) (by omega) (by omega) (by omega) (by omega))
            have HB1 := Lib.hid hB1
            clear hw1 hA1 hbx hB1
            refine hK _ _ ?_; clear hK K
            refine wpAny_ready (rs := [6]) (by kernel_rfl) (by simp) ?_
            refine AllReady.cons rfl (fun K hK => ?_) ?_
            ·
              go_simp
              go_at_call 62
              refine HF1.out.mono ?_
              rintro e w' ⟨rfl, rfl⟩
              refine hK _ _ ?_; clear hK K
              refine wpAny_ready (rs := [7]) (by kernel_rfl) (by simp) ?_
              refine AllReady.cons rfl (fun K hK => ?_) ?_
              ·
                go_simp
                go_at_call 61
                refine HP1.out.mono ?_
                rintro e w2 ⟨rfl, hA2, hB2⟩
                have HS2 := Lib.hid (Sk.blk HK2.out w2 hA2 (HB1.out.trans (hB2.mono (Nat.le_refl _))))
                clear hA2 hB2
                refine hK _ _ ?_; clear hK K
                refine wpAny_done (by kernel_rfl) ?_ _
                go_wp2_with fail
                go_roundg gk
                case rel => exact ⟨_, _, _, HS2.out, dropW_head _ _, by have := (List.dropWhile_sublist (l := r2) blkB).length_le; omega⟩
                case measure => omega
              exact AllReady.nil
            exact AllReady.nil
          exact AllReady.nil
        refine AllReady.cons rfl (fun K hK => ?_) ?_
        ·
          go_simp
          go_at_call 63
          refine (oneOf_any ⟨#[32, 9, 10]⟩ _).mono ?_
          rintro e w1 ⟨rfl, hw1⟩
          obtain ⟨hA1, hbx, hB1⟩ := HN.out w1 hw1
          have d0 := (wcel4 hA1.blk).1
          have HF1 := Lib.hid (firstIn_any [32, 9, 10] r2 wc.heap.size w1 hbx (by omega))
          rw [blkS_eq] at HF1
          have HP1 := Lib.hid (pass_any (r := r2.dropWhile blkB) (r2.takeWhile blkB) w1 (by rw [List.takeWhile_append_dropWhile]; exact hA1) (Nat.le_trans (List.takeWhile_sublist _).length_le (by omega)) (by omega) (by omega) (by omega) (by omega))
          have HB1 := Lib.hid hB1
          clear hw1 hA1 hbx hB1
          refine hK _ _ ?_; clear hK K
          refine wpAny_ready (rs := [4]) (by kernel_rfl) (by simp) ?_
          refine AllReady.cons rfl (fun K hK => ?_) ?_
          ·
            go_simp
            refine hK _ _ ?_; clear hK K
            refine wpAny_ready (rs := [6]) (by kernel_rfl) (by simp) ?_
            refine AllReady.cons rfl (fun K hK => ?_) ?_
            ·
              go_simp
              go_at_call 62
              refine HF1.out.mono ?_
              rintro e w' ⟨rfl, rfl⟩
              refine hK _ _ ?_; clear hK K
              refine wpAny_ready (rs := [7]) (by kernel_rfl) (by simp) ?_
              refine AllReady.cons rfl (fun K hK => ?_) ?_
              ·
                go_simp
                go_at_call 61
                refine HP1.out.mono ?_
                rintro e w2 ⟨rfl, hA2, hB2⟩
                have HS2 := Lib.hid (Sk.blk HK2.out w2 hA2 (HB1.out.trans (hB2.mono (Nat.le_refl _))))
                clear hA2 hB2
                refine hK _ _ ?_; clear hK K
                refine wpAny_done (by kernel_rfl) ?_ _
                go_wp2_with fail
                go_roundg gk
                case rel => exact ⟨_, _, _, HS2.out, dropW_head _ _, by have := (List.dropWhile_sublist (l := r2) blkB).length_le; omega⟩
                case measure => omega
              exact AllReady.nil
            exact AllReady.nil
          exact AllReady.nil
        exact AllReady.nil
end Go.Proofs.YtmkhfcdjgdofnaaDoor
