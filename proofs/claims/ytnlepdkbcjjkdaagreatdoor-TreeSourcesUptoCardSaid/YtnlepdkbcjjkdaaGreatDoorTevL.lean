/- Package tree: writeVar, writeProcess. -/
import Derived.Test.YtnlepdkbcjjkdaaGreatDoorTevK
import Derived.Lib.ItoaLen
namespace Go.Proofs.YtnlepdkbcjjkdaaGreatDoor
open Go.RowKit TreM WrdM

/-- A variable, a process at a place. -/
def DclP (W : World) (b p : Nat) (d : Dcl) : Prop := ∃ cs : List Value, (∀ i v, cs[i]? = some v → W.cell? ⟨b, p + i, none⟩ = some v) ∧ DclC W d cs
def PrcP (W : World) (b p : Nat) (d : Prc) : Prop := ∃ cs : List Value, (∀ i v, cs[i]? = some v → W.cell? ⟨b, p + i, none⟩ = some v) ∧ PrcC W d cs
theorem flatMap_take {α : Type} (f : α → List UInt8) (xs : List α) (k : Nat) (x : α) (h : xs[k]? = some x) : (xs.take (k + 1)).flatMap f = (xs.take k).flatMap f ++ f x := by
  rw [List.take_add_one, h, List.flatMap_append]
  simp
theorem flatMap_le {α : Type} (f : α → List UInt8) (xs : List α) (k : Nat) : ((xs.take k).flatMap f).length ≤ (xs.flatMap f).length := by
  have : xs.flatMap f = (xs.take k).flatMap f ++ (xs.drop k).flatMap f := by rw [← List.flatMap_append, List.take_append_drop]
  rw [this, List.length_append]
  omega
set_option maxHeartbeats 1600000 in
set_option maxRecDepth 100000 in
theorem writeVar_any {W0 w : World} {B b : Nat} {l : List UInt8} (h : Fr W0 w B b l) (hG : TrG W0) (d : Dcl) {bx px : Nat} (hbx : bx < W0.heap.size) (hR : DclP W0 bx px d) (hd : declB d = true) (hl : (l ++ declT d).length ≤ 140737488355328) :
    Calls Tryz.prog 22 #[.pointer (some ⟨b, 0, none⟩), .pointer (some ⟨bx, px, none⟩)] w fun e w' => e = .returned (.tuple #[]) ∧ Fr W0 w' B b (l ++ declT d) := by
  obtain ⟨cs, hcs, v, ll, lc, rfl, hn, ht, hlo, hhi, A, cap, rfl, hm, hc, hA⟩ := hR
  unfold declB at hd
  simp only [Bool.and_eq_true, decide_eq_true_eq] at hd
  obtain ⟨_, _, _, hd4⟩ := hd
  have g0 : W0.cell? ⟨bx, px, none⟩ = some (.string ⟨d.name.toArray⟩) := hcs 0 _ rfl
  have g1 : W0.cell? ⟨bx, px + 1, none⟩ = some (.string ⟨d.type.toArray⟩) := hcs 1 _ rfl
  have g2 : W0.cell? ⟨bx, px + 2, none⟩ = some (.int .i64 d.low) := hcs 2 _ rfl
  have g3 : W0.cell? ⟨bx, px + 3, none⟩ = some (.int .i64 d.high) := hcs 3 _ rfl
  have g4 : W0.cell? ⟨bx, px + 4, none⟩ = some (.slice A d.begins.length cap) := hcs 4 _ rfl
  have hT : l ++ declT d = l ++ ([118, 97, 114, 32] ++ d.name ++ [32, 58, 32]) ++ (if d.type.isEmpty then Lib.itoa d.low ++ [46, 46] ++ Lib.itoa d.high else d.type) ++ d.begins.flatMap (fun x => [32, 61, 32] ++ text x) ++ [59, 10] := by unfold declT; simp only [List.append_assoc]
  rw [hT] at hl ⊢
  obtain ⟨l1, hl1⟩ : ∃ l1, l1 = l ++ ([118, 97, 114, 32] ++ d.name ++ [32, 58, 32]) := ⟨_, rfl⟩
  obtain ⟨l2, hl2⟩ : ∃ l2, l2 = l1 ++ (if d.type.isEmpty then Lib.itoa d.low ++ [46, 46] ++ Lib.itoa d.high else d.type) := ⟨_, rfl⟩
  rw [← hl1, ← hl2] at hl ⊢
  have hlen := hl
  simp only [List.length_append] at hlen
  have hlen2 : l2.length = l1.length + (if d.type.isEmpty then Lib.itoa d.low ++ [46, 46] ++ Lib.itoa d.high else d.type).length := by rw [hl2]; simp
  have hlen1 : l1.length = l.length + (4 + d.name.length + 3) := by rw [hl1]; simp only [List.length_append, List.length_cons, List.length_nil]
  obtain ⟨nb, hnb⟩ : ∃ nb : ByteArray, nb = ⟨d.name.toArray⟩ := ⟨_, rfl⟩
  have hnbs : nb.size = d.name.length := by rw [hnb, size_mk]
  have hcat : (⟨#[118, 97, 114, 32]⟩ : ByteArray) ++ nb ++ ⟨#[32, 58, 32]⟩ = ⟨([118, 97, 114, 32] ++ d.name ++ [32, 58, 32]).toArray⟩ := by rw [hnb, ← app_mk, ← app_mk]
  have z1 : ¬ 9223372036854775807 < 4 + nb.size := by omega
  have z2 : ¬ 9223372036854775807 < 4 + nb.size + 3 := by omega
  have H1 := Lib.hid (h.str _ _ hcat (by rw [← hl1]; omega))
  rw [← hl1] at H1
  rw [← hnb] at g0
  have HCs : Hid (∀ w l, Fr W0 w B b l → w.cell? ⟨bx, px + 1, none⟩ = some (.string ⟨d.type.toArray⟩) ∧ w.cell? ⟨bx, px + 2, none⟩ = some (.int .i64 d.low) ∧ w.cell? ⟨bx, px + 3, none⟩ = some (.int .i64 d.high) ∧ w.cell? ⟨bx, px + 4, none⟩ = some (.slice A d.begins.length cap)) := fun w l hw =>
    ⟨hw.cell hbx g1, hw.cell hbx g2, hw.cell hbx g3, hw.cell hbx g4⟩
  have c0 := h.cell hbx g0
  have HGG := Lib.hid hG
  have HFL : Hid (∀ w l, Fr W0 w B b l → Calls Tryz.prog 56 #[.int .i64 d.low, .int .i64 10] w fun e w' => e = .returned (.string ⟨(Lib.itoa d.low).toArray⟩) ∧ Fr W0 w' B b l) := fun w l hw =>
    (fint_any d.low w hlo.1 hlo.2 (hG.below hw.h0 hG.n)).mono fun e w' ⟨he, hb⟩ => ⟨he, hw.below hb⟩
  have HFH : Hid (∀ w l, Fr W0 w B b l → Calls Tryz.prog 56 #[.int .i64 d.high, .int .i64 10] w fun e w' => e = .returned (.string ⟨(Lib.itoa d.high).toArray⟩) ∧ Fr W0 w' B b l) := fun w l hw =>
    (fint_any d.high w hhi.1 hhi.2 (hG.below hw.h0 hG.n)).mono fun e w' ⟨he, hb⟩ => ⟨he, hw.below hb⟩
  have HF0 : Hid (∀ w, Fr W0 w B b l1 → Fr W0 w.drew B b l1) := fun w hw => hw.below (Below.drew (Below.refl _ _))
  have HWT : Hid (d.type.isEmpty = false → ∀ w, Fr W0 w B b l1 → Calls Tryz.prog 20 #[.pointer (some ⟨b, 0, none⟩), .string ⟨d.type.toArray⟩] w fun e w' => (∃ v, e = .returned v) ∧ Fr W0 w' B b l2) := fun he w hw => by
    rw [if_neg (by rw [he]; decide)] at hl2
    rw [hl2]
    exact hw.str _ d.type rfl (by rw [← hl2]; omega)
  have HWR : Hid (d.type.isEmpty = true → ∀ w, Fr W0 w B b l1 → Calls Tryz.prog 20 #[.pointer (some ⟨b, 0, none⟩), .string (⟨(Lib.itoa d.low).toArray⟩ ++ ⟨#[46, 46]⟩ ++ ⟨(Lib.itoa d.high).toArray⟩)] w fun e w' => (∃ v, e = .returned v) ∧ Fr W0 w' B b l2) := fun he w hw => by
    rw [if_pos he] at hl2
    rw [hl2]
    exact hw.str _ (Lib.itoa d.low ++ [46, 46] ++ Lib.itoa d.high) (by rw [← app_mk, ← app_mk]) (by rw [← hl2]; omega)
  have HEM := Lib.hid (empty_list d.type)
  have hi1 : (⟨(Lib.itoa d.low).toArray⟩ : ByteArray).size ≤ 21 := by rw [size_mk]; exact Lib.itoa_length_le _ hlo.1 hlo.2
  have hi2 : (⟨(Lib.itoa d.high).toArray⟩ : ByteArray).size ≤ 21 := by rw [size_mk]; exact Lib.itoa_length_le _ hhi.1 hhi.2
  have HAS : Hid (∀ k x, d.begins[k]? = some x → ∃ b' p', A = some ⟨b', p', none⟩ ∧ b' < W0.heap.size ∧ ExP W0 b' (p' + k * 6) x ∧ writB x = true) := fun k x hx => by
    rcases hA with hA | ⟨b', p', hA, hb', hk⟩
    · rw [hA] at hx; simp at hx
    · obtain ⟨cs, _, c1, hy⟩ := hk k x hx
      exact ⟨b', p', hA, hb', ⟨cs, c1, hy⟩, List.all_eq_true.1 hd4 x (List.mem_of_getElem? hx)⟩
  have HJ : Hid (∀ k x, d.begins[k]? = some x → (d.begins.take (k + 1)).flatMap (fun x => [32, 61, 32] ++ text x) = (d.begins.take k).flatMap (fun x => [32, 61, 32] ++ text x) ++ ([32, 61, 32] ++ text x)) := fun k x hx => flatMap_take _ _ k x hx
  have HJn : Hid ((d.begins.take d.begins.length).flatMap (fun x => [32, 61, 32] ++ text x) = d.begins.flatMap (fun x => [32, 61, 32] ++ text x)) := by unfold Hid; rw [List.take_length]
  have HJL : Hid (∀ k, l2.length + ((d.begins.take k).flatMap (fun x => [32, 61, 32] ++ text x)).length + 2 ≤ 140737488355328) := fun k => by
    have := flatMap_le (fun x => [32, 61, 32] ++ text x) d.begins k
    have : ([59, 10] : List UInt8).length = 2 := rfl
    omega
  have HGE : Hid (∀ k, k < d.begins.length → ∃ x, d.begins[k]? = some x) := fun k hk => get_el hk
  clear h hd4 hA hT hl1 hl2 hl hlen hlen2 hlen1 hcs hG hn ht hlo hhi g0 g1 g2 g3 g4 hnb hnbs hcat
  generalize d.begins.flatMap (fun x => [32, 61, 32] ++ text x) = jall at *
  generalize d.begins.length = m at *
  generalize d.type.isEmpty = em at *
  generalize (⟨d.type.toArray⟩ : ByteArray) = tb at *
  generalize (⟨(Lib.itoa d.low).toArray⟩ : ByteArray) = lob at *
  generalize (⟨(Lib.itoa d.high).toArray⟩ : ByteArray) = hib at *
  generalize d.low = lo at *
  generalize d.high = hi at *
  have he := HEM.out
  go_enter Tryz.func22, Tryz.ntmps22
  go_wp2_with fail
  refine H1.out.mono ?_
  rintro e w1 ⟨⟨v1, rfl⟩, hF1⟩
  have HF1 := Lib.hid hF1
  obtain ⟨s1, s2, s3, s4⟩ := HCs.out w1 _ hF1
  clear hF1 H1 c0
  go_upto_if 17 with (fail)
  go_cut [] (fun wx => Hid (Fr W0 wx B b l2))
  case first =>
    rcases em with _ | _
    · have HW := Lib.hid (HWT.out rfl w1 HF1.out)
      clear HWR
      go_wp2_with fail
      refine HW.out.mono ?_
      rintro e w2 ⟨⟨v2, rfl⟩, hF2⟩
      have HF2 := Lib.hid hF2
      clear hF2 HW
      go_wp2_with fail
      go_meet
      exact HF2.out
    · have HW : Hid (∀ w, Fr W0 w B b l1 → Calls Tryz.prog 20 #[.pointer (some ⟨b, 0, none⟩), .string (lob ++ ⟨#[46, 46]⟩ ++ hib)] w fun e w' => (∃ v, e = .returned v) ∧ Fr W0 w' B b l2) := HWR.out rfl
      clear HWT HWR
      have y1 : ¬ 9223372036854775807 < lob.size + 2 := by omega
      have y2 : ¬ 9223372036854775807 < lob.size + 2 + hib.size := by omega
      have HFd := Lib.hid (HF0.out w1 HF1.out)
      go_upto_region 2 with (fail)
      refine wp_region_any (by kernel_rfl) ?_
      change wpAny _ _ _ _ _ _ _ (World.drew _)
      obtain ⟨wd, hwd⟩ : ∃ wd, wd = w1.drew := ⟨_, rfl⟩
      rw [← hwd] at HFd ⊢
      clear hwd s1 s2 s3 s4
      refine wpAny_take (i := 0) (v := ?_) rfl (by kernel_rfl) (by kernel_rfl) (by kernel_rfl) (fun _ _ _ h => h) (Or.inl ⟨by kernel_rfl, ?_⟩) ?_
      rotate_left 1
      · (intro w; go_simp <;> with_reducible rfl)
      go_simp
      refine wpAny_take (i := 1) (v := ?_) rfl (by kernel_rfl) (by kernel_rfl) (by kernel_rfl) (fun _ _ _ h => h) (Or.inl ⟨by kernel_rfl, ?_⟩) ?_
      rotate_left 1
      · (intro w; go_simp <;> with_reducible rfl)
      go_simp
      refine wpAny_take (i := 2) (v := ?_) rfl (by kernel_rfl) (by kernel_rfl) (by kernel_rfl) (fun _ _ _ h => h) (Or.inl ⟨by kernel_rfl, ?_⟩) ?_
      rotate_left 1
      · (intro w; go_simp <;> with_reducible rfl)
      go_simp
      refine wpAny_take (i := 3) (v := ?_) rfl (by kernel_rfl) (by kernel_rfl) (by kernel_rfl) (fun _ _ _ h => h) (Or.inl ⟨by kernel_rfl, ?_⟩) ?_
      rotate_left 1
      · (intro w; go_simp <;> with_reducible rfl)
      go_simp
      refine wpAny_take (i := 7) (v := ?_) rfl (by kernel_rfl) (by kernel_rfl) (by kernel_rfl) (fun _ _ _ h => h) (Or.inl ⟨by kernel_rfl, ?_⟩) ?_
      rotate_left 1
      · (intro w; go_simp <;> with_reducible rfl)
      go_simp
      refine wpAny_take (i := 8) (v := ?_) rfl (by kernel_rfl) (by kernel_rfl) (by kernel_rfl) (fun _ _ _ h => h) (Or.inl ⟨by kernel_rfl, ?_⟩) ?_
      rotate_left 1
      · (intro w; go_simp <;> with_reducible rfl)
      go_simp
      refine wpAny_take (i := 9) (v := ?_) rfl (by kernel_rfl) (by kernel_rfl) (by kernel_rfl) (fun _ _ _ h => h) (Or.inl ⟨by kernel_rfl, ?_⟩) ?_
      rotate_left 1
      · (intro w; go_simp <;> with_reducible rfl)
      go_simp
      refine wpAny_ready (rs := [4, 10]) (by kernel_rfl) (by simp) ?_
      refine AllReady.cons rfl (fun K hK => ?_) ?_
      ·
        obtain ⟨s1, s2, s3, s4⟩ := HCs.out wd _ HFd.out
        go_simp
        refine hK _ _ ?_; clear hK K
        refine wpAny_ready (rs := [5, 10]) (by kernel_rfl) (by simp) ?_
        refine AllReady.cons rfl (fun K hK => ?_) ?_
        ·
          go_simp
          go_at_call 56
          refine (HFL.out wd l1 HFd.out).mono ?_
          rintro e we ⟨rfl, hFe⟩
          have HFe := Lib.hid hFe
          clear hFe
          refine hK _ _ ?_; clear hK K
          refine wpAny_take (i := 6) (v := ?_) rfl (by kernel_rfl) (by kernel_rfl) (by kernel_rfl) (fun _ _ _ h => h) (Or.inl ⟨by kernel_rfl, ?_⟩) ?_
          rotate_left 1
          · (intro w; go_simp <;> with_reducible rfl)
          go_simp
          refine wpAny_ready (rs := [10]) (by kernel_rfl) (by simp) ?_
          refine AllReady.cons rfl (fun K hK => ?_) ?_
          ·
            obtain ⟨s1, s2, s3, s4⟩ := HCs.out we _ HFe.out
            go_simp
            refine hK _ _ ?_; clear hK K
            refine wpAny_ready (rs := [11]) (by kernel_rfl) (by simp) ?_
            refine AllReady.cons rfl (fun K hK => ?_) ?_
            ·
              go_simp
              go_at_call 56
              refine (HFH.out we l1 HFe.out).mono ?_
              rintro e wf ⟨rfl, hFf⟩
              have HFf := Lib.hid hFf
              clear hFf
              refine hK _ _ ?_; clear hK K
              refine wpAny_take (i := 12) (v := ?_) rfl (by kernel_rfl) (by kernel_rfl) (by kernel_rfl) (fun _ _ _ h => h) (Or.inl ⟨by kernel_rfl, ?_⟩) ?_
              rotate_left 1
              · (intro w; go_simp <;> with_reducible rfl)
              go_simp
              refine wpAny_ready (rs := [13]) (by kernel_rfl) (by simp) ?_
              refine AllReady.cons rfl (fun K hK => ?_) ?_
              ·
                go_simp
                go_at_call 20
                refine (HW.out wf HFf.out).mono ?_
                rintro e wg ⟨⟨v9, rfl⟩, hFg⟩
                have HFg := Lib.hid hFg
                clear hFg
                refine hK _ _ ?_; clear hK K
                refine wpAny_done (by kernel_rfl) ?_ _
                go_wp2_with fail
                go_meet
                exact HFg.out
              exact AllReady.nil
            exact AllReady.nil
          exact AllReady.nil
        refine AllReady.cons rfl (fun K hK => ?_) ?_
        ·
          obtain ⟨s1, s2, s3, s4⟩ := HCs.out wd _ HFd.out
          go_simp
          refine hK _ _ ?_; clear hK K
          refine wpAny_ready (rs := [5]) (by kernel_rfl) (by simp) ?_
          refine AllReady.cons rfl (fun K hK => ?_) ?_
          ·
            go_simp
            go_at_call 56
            refine (HFL.out wd l1 HFd.out).mono ?_
            rintro e we ⟨rfl, hFe⟩
            have HFe := Lib.hid hFe
            clear hFe
            refine hK _ _ ?_; clear hK K
            refine wpAny_take (i := 6) (v := ?_) rfl (by kernel_rfl) (by kernel_rfl) (by kernel_rfl) (fun _ _ _ h => h) (Or.inl ⟨by kernel_rfl, ?_⟩) ?_
            rotate_left 1
            · (intro w; go_simp <;> with_reducible rfl)
            go_simp
            refine wpAny_ready (rs := [11]) (by kernel_rfl) (by simp) ?_
            refine AllReady.cons rfl (fun K hK => ?_) ?_
            ·
              go_simp
              go_at_call 56
              refine (HFH.out we l1 HFe.out).mono ?_
              rintro e wf ⟨rfl, hFf⟩
              have HFf := Lib.hid hFf
              clear hFf
              refine hK _ _ ?_; clear hK K
              refine wpAny_take (i := 12) (v := ?_) rfl (by kernel_rfl) (by kernel_rfl) (by kernel_rfl) (fun _ _ _ h => h) (Or.inl ⟨by kernel_rfl, ?_⟩) ?_
              rotate_left 1
              · (intro w; go_simp <;> with_reducible rfl)
              go_simp
              refine wpAny_ready (rs := [13]) (by kernel_rfl) (by simp) ?_
              refine AllReady.cons rfl (fun K hK => ?_) ?_
              ·
                go_simp
                go_at_call 20
                refine (HW.out wf HFf.out).mono ?_
                rintro e wg ⟨⟨v9, rfl⟩, hFg⟩
                have HFg := Lib.hid hFg
                clear hFg
                refine hK _ _ ?_; clear hK K
                refine wpAny_done (by kernel_rfl) ?_ _
                go_wp2_with fail
                go_meet
                exact HFg.out
              exact AllReady.nil
            exact AllReady.nil
          exact AllReady.nil
        exact AllReady.nil
      refine AllReady.cons rfl (fun K hK => ?_) ?_
      ·
        obtain ⟨s1, s2, s3, s4⟩ := HCs.out wd _ HFd.out
        go_simp
        refine hK _ _ ?_; clear hK K
        refine wpAny_ready (rs := [4]) (by kernel_rfl) (by simp) ?_
        refine AllReady.cons rfl (fun K hK => ?_) ?_
        ·
          obtain ⟨s1, s2, s3, s4⟩ := HCs.out wd _ HFd.out
          go_simp
          refine hK _ _ ?_; clear hK K
          refine wpAny_ready (rs := [5]) (by kernel_rfl) (by simp) ?_
          refine AllReady.cons rfl (fun K hK => ?_) ?_
          ·
            go_simp
            go_at_call 56
            refine (HFL.out wd l1 HFd.out).mono ?_
            rintro e we ⟨rfl, hFe⟩
            have HFe := Lib.hid hFe
            clear hFe
            refine hK _ _ ?_; clear hK K
            refine wpAny_take (i := 6) (v := ?_) rfl (by kernel_rfl) (by kernel_rfl) (by kernel_rfl) (fun _ _ _ h => h) (Or.inl ⟨by kernel_rfl, ?_⟩) ?_
            rotate_left 1
            · (intro w; go_simp <;> with_reducible rfl)
            go_simp
            refine wpAny_ready (rs := [11]) (by kernel_rfl) (by simp) ?_
            refine AllReady.cons rfl (fun K hK => ?_) ?_
            ·
              go_simp
              go_at_call 56
              refine (HFH.out we l1 HFe.out).mono ?_
              rintro e wf ⟨rfl, hFf⟩
              have HFf := Lib.hid hFf
              clear hFf
              refine hK _ _ ?_; clear hK K
              refine wpAny_take (i := 12) (v := ?_) rfl (by kernel_rfl) (by kernel_rfl) (by kernel_rfl) (fun _ _ _ h => h) (Or.inl ⟨by kernel_rfl, ?_⟩) ?_
              rotate_left 1
              · (intro w; go_simp <;> with_reducible rfl)
              go_simp
              refine wpAny_ready (rs := [13]) (by kernel_rfl) (by simp) ?_
              refine AllReady.cons rfl (fun K hK => ?_) ?_
              ·
                go_simp
                go_at_call 20
                refine (HW.out wf HFf.out).mono ?_
                rintro e wg ⟨⟨v9, rfl⟩, hFg⟩
                have HFg := Lib.hid hFg
                clear hFg
                refine hK _ _ ?_; clear hK K
                refine wpAny_done (by kernel_rfl) ?_ _
                go_wp2_with fail
                go_meet
                exact HFg.out
              exact AllReady.nil
            exact AllReady.nil
          exact AllReady.nil
        exact AllReady.nil
      exact AllReady.nil
  case rest =>
  have HFc : Hid (Fr W0 wc B b l2) := hcut
  obtain ⟨s1, s2, s3, s4⟩ := HCs.out wc _ HFc.out
  clear hcut
  go_wp2_with fail
  go_loopw [4, 43] (fun _ i wr => ∃ k : Nat, k ≤ m ∧ i = .int .i64 k ∧ Hid (Fr W0 wr B b (l2 ++ (d.begins.take k).flatMap (fun x => [32, 61, 32] ++ text x)))) (fun _ i _ => m - (intOf i).toNat)
  case atStart => exact ⟨0, Nat.zero_le _, rfl, by unfold Hid; simpa using HFc.out⟩
  case round =>
    clear s1 s2 s3 s4
    obtain ⟨k, hk, rfl, HW⟩ := hrel
    by_cases hlt : k < m
    · have t1 : decide ((k : Int) < (m : Int)) = true := decide_eq_true (by omega)
      have t2 : decide (k < m) = true := decide_eq_true hlt
      obtain ⟨x, hx⟩ := HGE.out k hlt
      obtain ⟨b', p', rfl, hb', hex, hwr⟩ := HAS.out k x hx
      have hjl := HJL.out (k + 1)
      have hjk := HJ.out k x hx
      obtain ⟨lk, hlk⟩ : ∃ lk, lk = l2 ++ (d.begins.take k).flatMap (fun x => [32, 61, 32] ++ text x) := ⟨_, rfl⟩
      have hend : l2 ++ (d.begins.take (k + 1)).flatMap (fun x => [32, 61, 32] ++ text x) = lk ++ [32, 61, 32] ++ text x := by
        rw [hjk, hlk]; simp only [List.append_assoc]
      have hle : (lk ++ [32, 61, 32] ++ text x).length ≤ 140737488355328 := by rw [← hend, List.length_append]; omega
      have HWk : Hid (Fr W0 wr B b lk) := by unfold Hid; rw [hlk]; exact HW.out
      have HP0 := Lib.hid (HWk.out.str ⟨#[32, 61, 32]⟩ [32, 61, 32] rfl (by simp only [List.length_append] at hle ⊢; omega))
      have HP1 : Hid (∀ w, Fr W0 w B b (lk ++ [32, 61, 32]) → Calls Tryz.prog 38 #[.pointer (some ⟨b, 0, none⟩), .pointer (some ⟨b', p' + k * 6, none⟩)] w fun e w' => e = .returned (.tuple #[]) ∧ Fr W0 w' B b (l2 ++ (d.begins.take (k + 1)).flatMap (fun x => [32, 61, 32] ++ text x))) := fun w hw => by
        rw [hend]; exact hw.ex HGG.out hex hwr hle
      clear hx hex hwr hjl hjk hlk hend hle HW
      go_wp2_with fail
      refine HP0.out.mono ?_
      rintro e w4 ⟨⟨v4, rfl⟩, hF4⟩
      obtain ⟨s1, s2, s3, s4⟩ := HCs.out w4 _ hF4
      have HC5 := Lib.hid (HP1.out w4 hF4)
      clear hF4 HP0
      go_wp2_with fail
      refine HC5.out.mono ?_
      rintro e w5 ⟨rfl, hF5⟩
      have HF5 := Lib.hid hF5
      clear hF5 HC5
      go_wp2_with fail
      go_roundw
      case rel => exact ⟨k + 1, by omega, by go_num, HF5.out⟩
      case measure => simp [intOf]; omega
    · have t1 : decide ((k : Int) < (m : Int)) = false := decide_eq_false (by omega)
      have t2 : decide (k < m) = false := decide_eq_false hlt
      have hkm : k = m := by omega
      have hw := HW.out
      rw [hkm, HJn.out] at hw
      have hl2 := HJL.out m
      rw [HJn.out] at hl2
      have HC7 := Lib.hid (hw.str ⟨#[59, 10]⟩ [59, 10] rfl (by simp only [List.length_append, List.length_cons, List.length_nil]; omega))
      clear hw hl2 hkm
      go_wp2_with fail
      refine HC7.out.mono ?_
      rintro e w7 ⟨⟨v7, rfl⟩, hF7⟩
      have HF7 := Lib.hid hF7
      clear hF7 HC7
      go_wp2_with fail
      go_end0
      exact ⟨rfl, HF7.out⟩

set_option maxHeartbeats 1600000 in
set_option maxRecDepth 100000 in
theorem writeProcess_any {W0 w : World} {B b : Nat} {l : List UInt8} (h : Fr W0 w B b l) (hG : TrG W0) (d : Prc) {bx px : Nat} (hbx : bx < W0.heap.size) (hR : PrcP W0 bx px d) (hd : procB d = true) (hl : (l ++ procT d).length ≤ 140737488355328) :
    Calls Tryz.prog 23 #[.pointer (some ⟨b, 0, none⟩), .pointer (some ⟨bx, px, none⟩)] w fun e w' => e = .returned (.tuple #[]) ∧ Fr W0 w' B b (l ++ procT d) := by
  obtain ⟨cs, hcs, v, ll, lc, rfl, hn, A, cap, rfl, hm, hc, hA⟩ := hR
  unfold procB at hd
  simp only [Bool.and_eq_true, decide_eq_true_eq] at hd
  obtain ⟨_, _, hd4⟩ := hd
  have g0 : W0.cell? ⟨bx, px, none⟩ = some (.string ⟨d.name.toArray⟩) := hcs 0 _ rfl
  have g1 : W0.cell? ⟨bx, px + 1, none⟩ = some (.slice A d.rules.length cap) := hcs 1 _ rfl
  have hT : l ++ procT d = l ++ ([112, 114, 111, 99, 101, 115, 115, 32] ++ d.name ++ [32, 123, 10]) ++ d.rules.flatMap ruleT ++ [125, 10] := by unfold procT; simp only [List.append_assoc]
  rw [hT] at hl ⊢
  obtain ⟨l2, hl2⟩ : ∃ l2, l2 = l ++ ([112, 114, 111, 99, 101, 115, 115, 32] ++ d.name ++ [32, 123, 10]) := ⟨_, rfl⟩
  rw [← hl2] at hl ⊢
  have hlen := hl
  simp only [List.length_append] at hlen
  have hlen2 : l2.length = l.length + (8 + d.name.length + 3) := by rw [hl2]; simp only [List.length_append, List.length_cons, List.length_nil]
  obtain ⟨nb, hnb⟩ : ∃ nb : ByteArray, nb = ⟨d.name.toArray⟩ := ⟨_, rfl⟩
  have hnbs : nb.size = d.name.length := by rw [hnb, size_mk]
  have hcat : (⟨#[112, 114, 111, 99, 101, 115, 115, 32]⟩ : ByteArray) ++ nb ++ ⟨#[32, 123, 10]⟩ = ⟨([112, 114, 111, 99, 101, 115, 115, 32] ++ d.name ++ [32, 123, 10]).toArray⟩ := by rw [hnb, ← app_mk, ← app_mk]
  have z1 : ¬ 9223372036854775807 < 8 + nb.size := by omega
  have z2 : ¬ 9223372036854775807 < 8 + nb.size + 3 := by omega
  have H1 := Lib.hid (h.str _ _ hcat (by rw [← hl2]; omega))
  rw [← hl2] at H1
  rw [← hnb] at g0
  have HCs : Hid (∀ w l, Fr W0 w B b l → w.cell? ⟨bx, px + 1, none⟩ = some (.slice A d.rules.length cap)) := fun w l hw => hw.cell hbx g1
  have c0 := h.cell hbx g0
  have HGG := Lib.hid hG
  have HAS : Hid (∀ k x, d.rules[k]? = some x → ∃ b' p', A = some ⟨b', p', none⟩ ∧ b' < W0.heap.size ∧ RulP W0 b' (p' + k * 7) x ∧ ruleB x = true) := fun k x hx => by
    rcases hA with hA | ⟨b', p', hA, hb', hk⟩
    · rw [hA] at hx; simp at hx
    · obtain ⟨cs, _, c1, hy⟩ := hk k x hx
      exact ⟨b', p', hA, hb', ⟨cs, c1, hy⟩, List.all_eq_true.1 hd4 x (List.mem_of_getElem? hx)⟩
  have HJ : Hid (∀ k x, d.rules[k]? = some x → (d.rules.take (k + 1)).flatMap ruleT = (d.rules.take k).flatMap ruleT ++ ruleT x) := fun k x hx => flatMap_take _ _ k x hx
  have HJn : Hid ((d.rules.take d.rules.length).flatMap ruleT = d.rules.flatMap ruleT) := by unfold Hid; rw [List.take_length]
  have HJL : Hid (∀ k, l2.length + ((d.rules.take k).flatMap ruleT).length + 2 ≤ 140737488355328) := fun k => by
    have := flatMap_le ruleT d.rules k
    have : ([125, 10] : List UInt8).length = 2 := rfl
    omega
  have HGE : Hid (∀ k, k < d.rules.length → ∃ x, d.rules[k]? = some x) := fun k hk => get_el hk
  clear h hd4 hA hT hl2 hl hlen hlen2 hcs hG hn g0 g1 hnb hnbs hcat
  generalize d.rules.flatMap ruleT = jall at *
  generalize d.rules.length = m at *
  go_enter Tryz.func23, Tryz.ntmps23
  go_wp2_with fail
  refine H1.out.mono ?_
  rintro e w1 ⟨⟨v1, rfl⟩, hF1⟩
  have HFc := Lib.hid hF1
  have s1 := HCs.out w1 _ hF1
  clear hF1 H1 c0
  go_wp2_with fail
  go_loopw [4, 18] (fun _ i wr => ∃ k : Nat, k ≤ m ∧ i = .int .i64 k ∧ Hid (Fr W0 wr B b (l2 ++ (d.rules.take k).flatMap ruleT))) (fun _ i _ => m - (intOf i).toNat)
  case atStart => exact ⟨0, Nat.zero_le _, rfl, by unfold Hid; simpa using HFc.out⟩
  case round =>
    clear s1
    obtain ⟨k, hk, rfl, HW⟩ := hrel
    by_cases hlt : k < m
    · have t1 : decide ((k : Int) < (m : Int)) = true := decide_eq_true (by omega)
      have t2 : decide (k < m) = true := decide_eq_true hlt
      obtain ⟨x, hx⟩ := HGE.out k hlt
      obtain ⟨b', p', rfl, hb', hex, hwr⟩ := HAS.out k x hx
      have hjl := HJL.out (k + 1)
      have hjk := HJ.out k x hx
      have hend : l2 ++ (d.rules.take (k + 1)).flatMap ruleT = (l2 ++ (d.rules.take k).flatMap ruleT) ++ ruleT x := by
        rw [hjk]; simp only [List.append_assoc]
      have HP1 : Hid (Calls Tryz.prog 57 #[.pointer (some ⟨b, 0, none⟩), .pointer (some ⟨b', p' + k * 7, none⟩)] wr fun e w' => e = .returned (.tuple #[]) ∧ Fr W0 w' B b (l2 ++ (d.rules.take (k + 1)).flatMap ruleT)) := by
        unfold Hid
        rw [hend]
        exact writeRule_any HW.out HGG.out x hb' hex hwr (by rw [← hend, List.length_append]; omega)
      have s1 := HCs.out wr _ HW.out
      clear hx hex hwr hjl hjk hend HW
      go_wp2_with fail
      refine HP1.out.mono ?_
      rintro e w5 ⟨rfl, hF5⟩
      have HF5 := Lib.hid hF5
      clear hF5 HP1
      go_wp2_with fail
      go_roundw
      case rel => exact ⟨k + 1, by omega, by go_num, HF5.out⟩
      case measure => simp [intOf]; omega
    · have t1 : decide ((k : Int) < (m : Int)) = false := decide_eq_false (by omega)
      have t2 : decide (k < m) = false := decide_eq_false hlt
      have hkm : k = m := by omega
      have hw := HW.out
      rw [hkm, HJn.out] at hw
      have hl2 := HJL.out m
      rw [HJn.out] at hl2
      have HC7 := Lib.hid (hw.str ⟨#[125, 10]⟩ [125, 10] rfl (by simp only [List.length_append, List.length_cons, List.length_nil]; omega))
      clear hw hl2 hkm
      go_wp2_with fail
      refine HC7.out.mono ?_
      rintro e w7 ⟨⟨v7, rfl⟩, hF7⟩
      have HF7 := Lib.hid hF7
      clear hF7 HC7
      go_wp2_with fail
      go_end0
      exact ⟨rfl, HF7.out⟩
end Go.Proofs.YtnlepdkbcjjkdaaGreatDoor
