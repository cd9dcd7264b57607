/- A Knit's unknown: the gates on which edges hang that have no variable, rising. -/
import Derived.Test.YtmiifhclcknhdaaKntG
import Derived.Test.YtmiifhclcknhdaaGcoa
namespace Go.Proofs.Ytmiifhclcknhdaa
open Go.RowKit GatM KntM Go.Lib

/-- What unknown answers. -/
def UnkTo (gs : Gs) (K l : List Nat) (w : World) (e : Ending) (w' : World) : Prop :=
  ∃ D A c, e = .returned (.slice A D.length c) ∧ UnkL gs K l D ∧ ((∀ x ∈ l, x / 2 ∈ K) → D = []) ∧ SlN .i64 3 w' A c D ∧ (∀ k, onB A k → w.heap.size ≤ k) ∧ Below w.heap.size w w'
/-- Where the search has come to. -/
def UsAt (w : World) (gs : Gs) (K l : List Nat) (bk b5 b2 b6 bm k i : Nat) (C : List Nat) (wr : World) : Prop :=
  UnmTo w.heap.size w bk b5 b2 b6 bm C wr ∧ BfK gs K l k i C ∧ Em K l k C
theorem un_start (w : World) (bk : Nat) : UnmTo w.heap.size w bk (w.heap.size + 1 + 1) w.heap.size (w.heap.size + 1 + 1 + 1) (w.heap.size + 1) []
    ((((w.alloc (.cells #[.pointer (some ⟨bk, 0, none⟩)] 29)).alloc (.map #[] 0)).alloc (.cells #[.map (some (w.heap.size + 1))] 99)).alloc (.cells #[.slice none 0 0] 45)) := by
  obtain ⟨wa, ea⟩ : ∃ wa, wa = w.alloc (.cells #[.pointer (some ⟨bk, 0, none⟩)] 29) := ⟨_, rfl⟩
  obtain ⟨wb, eb⟩ : ∃ wb, wb = wa.alloc (.map #[] 0) := ⟨_, rfl⟩
  obtain ⟨wc, ec⟩ : ∃ wc, wc = wb.alloc (.cells #[.map (some (w.heap.size + 1))] 99) := ⟨_, rfl⟩
  rw [← ea, ← eb, ← ec]
  have sa : wa.heap.size = w.heap.size + 1 := by rw [ea]; simp
  have sb : wb.heap.size = w.heap.size + 1 + 1 := by rw [eb]; simp [sa]
  have sc : wc.heap.size = w.heap.size + 1 + 1 + 1 := by rw [ec]; simp [sb]
  have ha := blk_new w (.cells #[.pointer (some ⟨bk, 0, none⟩)] 29)
  rw [← ea] at ha
  have hm : MetM wb wa.heap.size 0 [] := by rw [eb]; exact MetM.made wa
  have hc := blk_new wb (.cells #[.map (some (w.heap.size + 1))] 99)
  rw [← ec] at hc
  have hd := blk_new wc (.cells #[.slice none 0 0] 45)
  refine ⟨none, 0, ?_, ?_, ?_, ⟨0, Nat.le_refl _, ?_⟩, .inl ⟨rfl, rfl, rfl⟩, ⟨by omega, by omega, by omega, by omega⟩, fun k hk => absurd hk (onB_none k), ?_⟩
  · rw [Below.heap_alloc _ _ _ (by omega), ← sb]; exact hc
  · rw [Below.heap_alloc _ _ _ (by omega), ec, Below.heap_alloc _ _ _ (by omega), eb, Below.heap_alloc _ _ _ (by omega)]; exact ha
  · rw [← sc]; exact hd
  · rw [← sa]
    refine hm.same ?_
    rw [Below.heap_alloc _ _ _ (by omega), ec, Below.heap_alloc _ _ _ (by omega)]
  · rw [ec, eb, ea]
    exact ((((Below.refl _ _).alloc (Nat.le_refl _) _).alloc (by simp) _).alloc (by simp; omega) _).alloc (by simp; omega) _
set_option maxHeartbeats 12800000 in
set_option maxRecDepth 100000 in
theorem kunknown_any {w : World} {q : KnC} {s : KnS} (hq : KnAt w q s) {c : GrC} {gs : Gs} {ins : List Nat} (hgr : GrAt w c gs ins gs) (hw : Wf gs) (hbg : s.bg = c.bg) (hL : gs.length ≤ 90000) (hKm : ∀ x ∈ s.K, x < s.m) (hK9 : s.K.length ≤ 90000)
    (A : Option Addr) (n cn : Nat) (l : List Nat) (hl : RdN .u32 w w.heap.size A n l) (hin : AllIn gs l) (hnn : n ≤ 90000) :
    Calls Try.prog 37 #[.pointer (some ⟨q.bk, 0, none⟩), .slice A n cn] w (UnkTo gs s.K l w) := by
  have HST := Lib.hid (un_start w q.bk)
  have HKQ := Lib.hid hq
  have HG := Lib.hid hgr
  have HW := Lib.hid hw
  have HL := Lib.hid hl
  have HI := Lib.hid hin
  have HBG := Lib.hid hbg
  have HKM := Lib.hid hKm
  have HS := Lib.hid (AllIn.sml hin hL)
  have HME : Hid (∀ wr b5 b2 b6 bm C, UnmTo w.heap.size w q.bk b5 b2 b6 bm C wr → C.length ≤ 90000 → ∀ e, e / 2 < gs.length → Calls Try.prog 53 #[.int .u32 (e : Int), .pointer (some ⟨b5, 0, none⟩), .pointer (some ⟨b2, 0, none⟩), .pointer (some ⟨b6, 0, none⟩)] wr
      fun r w' => r = .returned (.tuple #[]) ∧ UnmTo w.heap.size w q.bk b5 b2 b6 bm (meetK s.K C (e / 2)) w') := fun wr b5 b2 b6 bm C hU hC e he =>
    kmeet_any hq hU hC e (by omega) (by omega) (fun hm hk => by have := hKm _ hk; omega) hK9
  clear hq hgr hw hl hin hbg hKm
  have hmm := @run_makeMap Try.prog
  go_enter Try.func37, Try.ntmps37
  go_wp2_with fail
  obtain ⟨W0, hW0⟩ : ∃ W0, W0 = (((w.alloc (.cells #[.pointer (some ⟨q.bk, 0, none⟩)] 29)).alloc (.map #[] 0)).alloc (.cells #[.map (some (w.heap.size + 1))] 99)).alloc (.cells #[.slice none 0 0] 45) := ⟨_, rfl⟩
  rw [← hW0] at HST ⊢
  generalize hb5 : w.heap.size + 1 + 1 = b5 at *
  generalize hb6 : b5 + 1 = b6 at *
  generalize hbm : w.heap.size + 1 = bm at *
  generalize hb2 : w.heap.size = b2 at HST ⊢
  have HC0 : Hid (UsAt w gs s.K l q.bk b5 b2 b6 bm 0 0 [] W0) := ⟨by rw [← hb2] at HST ⊢; exact HST.out, bfK_start gs s.K l, Em.start s.K l⟩
  clear HST hW0 hb2 hb5 hb6 hbm hmm
  go_loopw [18, 9] (fun i _ wr => ∃ (k : Nat) (C : List Nat), i = .int .i64 (k : Int) ∧ k ≤ n ∧ Hid (UsAt w gs s.K l q.bk b5 b2 b6 bm k 0 C wr)) (fun i _ _ => n - (intOf i).toNat)
  case atStart => exact ⟨0, [], rfl, Nat.zero_le _, HC0⟩
  case round =>
    obtain ⟨k, C, rfl, hk, hC⟩ := hrel
    obtain ⟨hU, hB, hE⟩ := hC.out
    by_cases hlt : k < n
    · have tk : decide ((k : Int) < (n : Int)) = true := decide_eq_true (by omega)
      have tk2 : decide (k < n) = true := decide_eq_true hlt
      have hkl : k < l.length := by have := HL.out.len; omega
      obtain ⟨Ac, cc, hA⟩ := hU
      obtain ⟨b, o, rfl, hb, hc⟩ := (HL.out.below hA.be).get hlt
      have hx : l.getD k 0 / 2 < gs.length := HI.out _ (nmem.2 ⟨k, hkl, rfl⟩)
      have hxs := HS.out k
      have HM := Lib.hid (HME.out wr b5 b2 b6 bm C ⟨Ac, cc, hA⟩ (by have := hB.len; omega) (l.getD k 0) hx)
      have HR := Lib.hid (hB.root hkl HI.out)
      have HR2 := Lib.hid hE.root
      generalize l.getD k 0 = x at *
      clear hA hB hC hE HC0
      go_wp2_with fail
      refine HM.out.mono ?_
      rintro e w3 ⟨rfl, hU'⟩
      have HC' : Hid (UsAt w gs s.K l q.bk b5 b2 b6 bm (k + 1) 0 (meetK s.K C (x / 2)) w3) := ⟨hU', HR.out, HR2.out⟩
      clear hU' HM HR HR2
      go_wp2_with fail
      go_roundw
      case rel => exact ⟨k + 1, _, by go_num, by omega, HC'⟩
      case measure => simp [intOf]; omega
    · have tk : decide ((k : Int) < (n : Int)) = false := decide_eq_false (by omega)
      have tk2 : decide (k < n) = false := decide_eq_false hlt
      obtain rfl : k = n := by omega
      clear hU hB hE HC0
      go_wp2_with fail
      obtain ⟨wo, rfl⟩ : ∃ wo : World, wo = wr := ⟨_, rfl⟩
      go_loopw [10, 11, 12, 13] (fun i _ _ _ wr => ∃ (j : Nat) (C : List Nat), i = .int .i64 (j : Int) ∧ j ≤ C.length ∧ Hid (UsAt w gs s.K l q.bk b5 b2 b6 bm k j C wr)) (fun i _ _ _ _ => gs.length - (intOf i).toNat)
      case atStart => exact ⟨0, _, rfl, Nat.zero_le _, hC⟩
      case round =>
        clear hC
        obtain ⟨j, C, rfl, hj, hC⟩ := hrel
        obtain ⟨⟨Ac, cc, hA⟩, hB, hE⟩ := hC.out
        obtain ⟨_, c2, c6, _⟩ := hA.cells
        by_cases hlt : j < C.length
        · have tk : decide ((j : Int) < (C.length : Int)) = true := decide_eq_true (by omega)
          have tk2 : decide (j < C.length) = true := decide_eq_true hlt
          have tk3 : decide ((C.length : Int) ≤ (j : Int)) = false := decide_eq_false (by omega)
          have tk4 : decide (C.length ≤ j) = false := decide_eq_false (by omega)
          obtain ⟨g, rfl, hr⟩ := SlV.row hA.rw (by omega)
          have cj : wr.cell? ⟨g, j, none⟩ = some (.int .i64 ((C.getD j 0 : Nat) : Int)) := hr.cell (show j < C.length * 1 by omega)
          have hCl := hB.len
          have hx := hB.nz _ (ngetD hlt)
          have hcb := ((HKQ.out.below hA.be).cells).1
          rw [HBG.out] at hcb
          have HPA := Lib.hid (gparts_any ((HG.out.below hA.be).below (below_drewN (Below.refl wr.heap.size wr) 1)) HW.out hL (C.getD j 0) hx.2)
          have hw32 := wf_sml HW.out hL hx.2
          have HU : Hid (∀ w3, Below wr.heap.size wr w3 → UnmTo w.heap.size w q.bk b5 b2 b6 bm C w3) := fun w3 hb3 => ⟨_, cc, hA.below hb3⟩
          have HCL := Lib.hid hCl
          have HBX : Hid (∀ w3, Below wr.heap.size (wr.drewN 1) w3 → Below wr.heap.size wr w3) := fun w3 hb3 => (below_drewN (Below.refl wr.heap.size wr) 1).trans hb3
          have HNO : Hid (andB gs (C.getD j 0) = false → ∀ w3, Below wr.heap.size wr w3 → UsAt w gs s.K l q.bk b5 b2 b6 bm k (j + 1) C w3) := fun hab w3 hb3 => ⟨HU.out w3 hb3, hB.leaf (by unfold andB at hab; simpa using hab), hE⟩
          have HYE : Hid (andB gs (C.getD j 0) = true → (getG gs (C.getD j 0)).1 / 2 < gs.length ∧ (getG gs (C.getD j 0)).2 / 2 < gs.length ∧ BfK gs s.K l k (j + 1) (meetK s.K (meetK s.K C ((getG gs (C.getD j 0)).1 / 2)) ((getG gs (C.getD j 0)).2 / 2)) ∧ Em s.K l k (meetK s.K (meetK s.K C ((getG gs (C.getD j 0)).1 / 2)) ((getG gs (C.getD j 0)).2 / 2)) ∧
              j + 1 ≤ (meetK s.K (meetK s.K C ((getG gs (C.getD j 0)).1 / 2)) ((getG gs (C.getD j 0)).2 / 2)).length ∧ (meetK s.K C ((getG gs (C.getD j 0)).1 / 2)).length ≤ 90000) := fun hab => by
            have hne : getG gs (C.getD j 0) ≠ (0, 0) := by unfold andB at hab; simpa using hab
            have h1 := HW.out.lt1 hx.2 hne
            have h2 := meetK_len s.K C ((getG gs (C.getD j 0)).1 / 2)
            have h3 := meetK_len s.K (meetK s.K C ((getG gs (C.getD j 0)).1 / 2)) ((getG gs (C.getD j 0)).2 / 2)
            have h4 := hB.meet (n := (getG gs (C.getD j 0)).1 / 2) (Nat.le_of_lt hlt) (by omega) (.left (hB.snd _ (ngetD hlt)) hne)
            exact ⟨by omega, by omega, hB.step HW.out hlt hne, hE.step hlt, by omega, Nat.le_trans h4.len hL⟩
          generalize C.getD j 0 = x at *
          generalize (getG gs x).1 = a at *
          generalize (getG gs x).2 = b at *
          generalize andB gs x = ob at *
          clear hA hB hC hE hr hw32 hx
          go_upto_region 12 with (fail)
          go_cut [11, 12, 13] (fun u v z wx => u = .int .u32 (a : Int) ∧ v = .int .u32 (b : Int) ∧ z = .bool ob ∧ Hid (Below wr.heap.size wr wx))
          case first =>
            refine wp_region_any (by kernel_rfl) ?_
            change wpAny _ _ _ _ _ _ _ (World.drew _)
            obtain ⟨wx, hwx⟩ : ∃ wx, wx = wr.drew := ⟨_, rfl⟩
            have HPX := HPA
            rw [show wr.drewN 1 = wx from hwx.symm] at HPX HBX
            have z0 : wx.cell? ⟨b2, 0, none⟩ = some (.pointer (some ⟨q.bk, 0, none⟩)) := by rw [hwx]; exact c2
            have z1 : wx.cell? ⟨q.bk, 0, none⟩ = some (.pointer (some ⟨c.bg, 0, none⟩)) := by rw [hwx]; exact hcb
            have z6 : wx.cell? ⟨b6, 0, none⟩ = some (.slice (some ⟨g, 0, none⟩) C.length cc) := by rw [hwx]; exact c6
            have zj : wx.cell? ⟨g, j, none⟩ = some (.int .i64 (x : Int)) := by rw [hwx]; exact cj
            have HWS : Hid (wx.heap.size = wr.heap.size) := by rw [hwx]; rfl
            rw [← hwx]
            clear hwx c2 c6 cj hcb HPA
            refine wpAny_take (i := 5) (v := ?_) rfl (by kernel_rfl) (by kernel_rfl) (by kernel_rfl) (fun _ _ _ h => h) (Or.inl ⟨by kernel_rfl, ?_⟩) ?_
            rotate_left 1
            · (intro w; go_simp <;> with_reducible rfl)
            go_simp
            refine wpAny_ready (rs := [0, 4]) (by kernel_rfl) (by simp) ?_
            refine AllReady.cons rfl (fun K hK => ?_) ?_
            ·
              go_simp
              refine hK _ _ ?_; clear hK K
              refine wpAny_take (i := 1) (v := ?_) rfl (by kernel_rfl) (by kernel_rfl) (by kernel_rfl) (fun _ _ _ h => h) (Or.inl ⟨by kernel_rfl, ?_⟩) ?_
              rotate_left 1
              · (intro w; go_simp <;> with_reducible rfl)
              go_simp
              refine wpAny_take (i := 2) (v := ?_) rfl (by kernel_rfl) (by kernel_rfl) (by kernel_rfl) (fun _ _ _ h => h) (Or.inl ⟨by kernel_rfl, ?_⟩) ?_
              rotate_left 1
              · (intro w; go_simp <;> with_reducible rfl)
              go_simp
              refine wpAny_ready (rs := [3, 4]) (by kernel_rfl) (by simp) ?_
              refine AllReady.cons rfl (fun K hK => ?_) ?_
              ·
                go_simp
                refine hK _ _ ?_; clear hK K
                refine wpAny_ready (rs := [4]) (by kernel_rfl) (by simp) ?_
                refine AllReady.cons rfl (fun K hK => ?_) ?_
                ·
                  go_simp
                  refine hK _ _ ?_; clear hK K
                  refine wpAny_take (i := 6) (v := ?_) rfl (by kernel_rfl) (by kernel_rfl) (by kernel_rfl) (fun _ _ _ h => h) (Or.inl ⟨by kernel_rfl, ?_⟩) ?_
                  rotate_left 1
                  · (intro w; go_simp <;> with_reducible rfl)
                  go_simp
                  refine wpAny_ready (rs := [7]) (by kernel_rfl) (by simp) ?_
                  refine AllReady.cons rfl (fun K hK => ?_) ?_
                  ·
                    go_simp
                    refine hK _ _ ?_; clear hK K
                    refine wpAny_ready (rs := [8]) (by kernel_rfl) (by simp) ?_
                    refine AllReady.cons rfl (fun K hK => ?_) ?_
                    ·
                      go_simp
                      go_wp2_with ((go_at_call 18; refine HPX.out.mono ?_; rintro e2 w3 ⟨rfl, hb3⟩; have HB3 := Lib.hid (HBX.out _ (by rw [← HWS.out]; exact hb3)); clear hb3 HPX))
                      first | (refine hK _ _ ?_; clear hK K) | skip
                      refine wpAny_take (i := 9) (v := ?_) rfl (by kernel_rfl) (by kernel_rfl) (by kernel_rfl) (fun _ _ _ h => h) (Or.inl ⟨by kernel_rfl, ?_⟩) ?_
                      rotate_left 1
                      · (intro w; go_simp <;> with_reducible rfl)
                      go_simp
                      refine wpAny_take (i := 10) (v := ?_) rfl (by kernel_rfl) (by kernel_rfl) (by kernel_rfl) (fun _ _ _ h => h) (Or.inl ⟨by kernel_rfl, ?_⟩) ?_
                      rotate_left 1
                      · (intro w; go_simp <;> with_reducible rfl)
                      go_simp
                      refine wpAny_take (i := 11) (v := ?_) rfl (by kernel_rfl) (by kernel_rfl) (by kernel_rfl) (fun _ _ _ h => h) (Or.inl ⟨by kernel_rfl, ?_⟩) ?_
                      rotate_left 1
                      · (intro w; go_simp <;> with_reducible rfl)
                      go_simp
                      refine wpAny_take (i := 12) (v := ?_) rfl (by kernel_rfl) (by kernel_rfl) (by kernel_rfl) (fun _ _ _ h => h) (Or.inl ⟨by kernel_rfl, ?_⟩) ?_
                      rotate_left 1
                      · (intro w; go_simp <;> with_reducible rfl)
                      go_simp
                      refine wpAny_take (i := 13) (v := ?_) rfl (by kernel_rfl) (by kernel_rfl) (by kernel_rfl) (fun _ _ _ h => h) (Or.inl ⟨by kernel_rfl, ?_⟩) ?_
                      rotate_left 1
                      · (intro w; go_simp <;> with_reducible rfl)
                      go_simp
                      refine wpAny_take (i := 14) (v := ?_) rfl (by kernel_rfl) (by kernel_rfl) (by kernel_rfl) (fun _ _ _ h => h) (Or.inl ⟨by kernel_rfl, ?_⟩) ?_
                      rotate_left 1
                      · (intro w; go_simp <;> with_reducible rfl)
                      go_simp
                      refine wpAny_take (i := 15) (v := ?_) rfl (by kernel_rfl) (by kernel_rfl) (by kernel_rfl) (fun _ _ _ h => h) (Or.inl ⟨by kernel_rfl, ?_⟩) ?_
                      rotate_left 1
                      · (intro w; go_simp <;> with_reducible rfl)
                      go_simp
                      refine wpAny_done (by kernel_rfl) ?_ _
                      clear z0 z1 z6 zj
                      go_wp2_with fail
                      go_meet
                      exact ⟨rfl, rfl, rfl, HB3⟩
                    exact AllReady.nil
                  exact AllReady.nil
                exact AllReady.nil
              refine AllReady.cons rfl (fun K hK => ?_) ?_
              ·
                go_simp
                refine hK _ _ ?_; clear hK K
                refine wpAny_take (i := 6) (v := ?_) rfl (by kernel_rfl) (by kernel_rfl) (by kernel_rfl) (fun _ _ _ h => h) (Or.inl ⟨by kernel_rfl, ?_⟩) ?_
                rotate_left 1
                · (intro w; go_simp <;> with_reducible rfl)
                go_simp
                refine wpAny_ready (rs := [3, 7]) (by kernel_rfl) (by simp) ?_
                refine AllReady.cons rfl (fun K hK => ?_) ?_
                ·
                  go_simp
                  refine hK _ _ ?_; clear hK K
                  refine wpAny_ready (rs := [7]) (by kernel_rfl) (by simp) ?_
                  refine AllReady.cons rfl (fun K hK => ?_) ?_
                  ·
                    go_simp
                    refine hK _ _ ?_; clear hK K
                    refine wpAny_ready (rs := [8]) (by kernel_rfl) (by simp) ?_
                    refine AllReady.cons rfl (fun K hK => ?_) ?_
                    ·
                      go_simp
                      go_wp2_with ((go_at_call 18; refine HPX.out.mono ?_; rintro e2 w3 ⟨rfl, hb3⟩; have HB3 := Lib.hid (HBX.out _ (by rw [← HWS.out]; exact hb3)); clear hb3 HPX))
                      first | (refine hK _ _ ?_; clear hK K) | skip
                      refine wpAny_take (i := 9) (v := ?_) rfl (by kernel_rfl) (by kernel_rfl) (by kernel_rfl) (fun _ _ _ h => h) (Or.inl ⟨by kernel_rfl, ?_⟩) ?_
                      rotate_left 1
                      · (intro w; go_simp <;> with_reducible rfl)
                      go_simp
                      refine wpAny_take (i := 10) (v := ?_) rfl (by kernel_rfl) (by kernel_rfl) (by kernel_rfl) (fun _ _ _ h => h) (Or.inl ⟨by kernel_rfl, ?_⟩) ?_
                      rotate_left 1
                      · (intro w; go_simp <;> with_reducible rfl)
                      go_simp
                      refine wpAny_take (i := 11) (v := ?_) rfl (by kernel_rfl) (by kernel_rfl) (by kernel_rfl) (fun _ _ _ h => h) (Or.inl ⟨by kernel_rfl, ?_⟩) ?_
                      rotate_left 1
                      · (intro w; go_simp <;> with_reducible rfl)
                      go_simp
                      refine wpAny_take (i := 12) (v := ?_) rfl (by kernel_rfl) (by kernel_rfl) (by kernel_rfl) (fun _ _ _ h => h) (Or.inl ⟨by kernel_rfl, ?_⟩) ?_
                      rotate_left 1
                      · (intro w; go_simp <;> with_reducible rfl)
                      go_simp
                      refine wpAny_take (i := 13) (v := ?_) rfl (by kernel_rfl) (by kernel_rfl) (by kernel_rfl) (fun _ _ _ h => h) (Or.inl ⟨by kernel_rfl, ?_⟩) ?_
                      rotate_left 1
                      · (intro w; go_simp <;> with_reducible rfl)
                      go_simp
                      refine wpAny_take (i := 14) (v := ?_) rfl (by kernel_rfl) (by kernel_rfl) (by kernel_rfl) (fun _ _ _ h => h) (Or.inl ⟨by kernel_rfl, ?_⟩) ?_
                      rotate_left 1
                      · (intro w; go_simp <;> with_reducible rfl)
                      go_simp
                      refine wpAny_take (i := 15) (v := ?_) rfl (by kernel_rfl) (by kernel_rfl) (by kernel_rfl) (fun _ _ _ h => h) (Or.inl ⟨by kernel_rfl, ?_⟩) ?_
                      rotate_left 1
                      · (intro w; go_simp <;> with_reducible rfl)
                      go_simp
                      refine wpAny_done (by kernel_rfl) ?_ _
                      clear z0 z1 z6 zj
                      go_wp2_with fail
                      go_meet
                      exact ⟨rfl, rfl, rfl, HB3⟩
                    exact AllReady.nil
                  exact AllReady.nil
                refine AllReady.cons rfl (fun K hK => ?_) ?_
                ·
                  go_simp
                  refine hK _ _ ?_; clear hK K
                  refine wpAny_ready (rs := [3]) (by kernel_rfl) (by simp) ?_
                  refine AllReady.cons rfl (fun K hK => ?_) ?_
                  ·
                    go_simp
                    refine hK _ _ ?_; clear hK K
                    refine wpAny_ready (rs := [8]) (by kernel_rfl) (by simp) ?_
                    refine AllReady.cons rfl (fun K hK => ?_) ?_
                    ·
                      go_simp
                      go_wp2_with ((go_at_call 18; refine HPX.out.mono ?_; rintro e2 w3 ⟨rfl, hb3⟩; have HB3 := Lib.hid (HBX.out _ (by rw [← HWS.out]; exact hb3)); clear hb3 HPX))
                      first | (refine hK _ _ ?_; clear hK K) | skip
                      refine wpAny_take (i := 9) (v := ?_) rfl (by kernel_rfl) (by kernel_rfl) (by kernel_rfl) (fun _ _ _ h => h) (Or.inl ⟨by kernel_rfl, ?_⟩) ?_
                      rotate_left 1
                      · (intro w; go_simp <;> with_reducible rfl)
                      go_simp
                      refine wpAny_take (i := 10) (v := ?_) rfl (by kernel_rfl) (by kernel_rfl) (by kernel_rfl) (fun _ _ _ h => h) (Or.inl ⟨by kernel_rfl, ?_⟩) ?_
                      rotate_left 1
                      · (intro w; go_simp <;> with_reducible rfl)
                      go_simp
                      refine wpAny_take (i := 11) (v := ?_) rfl (by kernel_rfl) (by kernel_rfl) (by kernel_rfl) (fun _ _ _ h => h) (Or.inl ⟨by kernel_rfl, ?_⟩) ?_
                      rotate_left 1
                      · (intro w; go_simp <;> with_reducible rfl)
                      go_simp
                      refine wpAny_take (i := 12) (v := ?_) rfl (by kernel_rfl) (by kernel_rfl) (by kernel_rfl) (fun _ _ _ h => h) (Or.inl ⟨by kernel_rfl, ?_⟩) ?_
                      rotate_left 1
                      · (intro w; go_simp <;> with_reducible rfl)
                      go_simp
                      refine wpAny_take (i := 13) (v := ?_) rfl (by kernel_rfl) (by kernel_rfl) (by kernel_rfl) (fun _ _ _ h => h) (Or.inl ⟨by kernel_rfl, ?_⟩) ?_
                      rotate_left 1
                      · (intro w; go_simp <;> with_reducible rfl)
                      go_simp
                      refine wpAny_take (i := 14) (v := ?_) rfl (by kernel_rfl) (by kernel_rfl) (by kernel_rfl) (fun _ _ _ h => h) (Or.inl ⟨by kernel_rfl, ?_⟩) ?_
                      rotate_left 1
                      · (intro w; go_simp <;> with_reducible rfl)
                      go_simp
                      refine wpAny_take (i := 15) (v := ?_) rfl (by kernel_rfl) (by kernel_rfl) (by kernel_rfl) (fun _ _ _ h => h) (Or.inl ⟨by kernel_rfl, ?_⟩) ?_
                      rotate_left 1
                      · (intro w; go_simp <;> with_reducible rfl)
                      go_simp
                      refine wpAny_done (by kernel_rfl) ?_ _
                      clear z0 z1 z6 zj
                      go_wp2_with fail
                      go_meet
                      exact ⟨rfl, rfl, rfl, HB3⟩
                    exact AllReady.nil
                  exact AllReady.nil
                exact AllReady.nil
              exact AllReady.nil
            refine AllReady.cons rfl (fun K hK => ?_) ?_
            ·
              go_simp
              refine hK _ _ ?_; clear hK K
              refine wpAny_take (i := 6) (v := ?_) rfl (by kernel_rfl) (by kernel_rfl) (by kernel_rfl) (fun _ _ _ h => h) (Or.inl ⟨by kernel_rfl, ?_⟩) ?_
              rotate_left 1
              · (intro w; go_simp <;> with_reducible rfl)
              go_simp
              refine wpAny_ready (rs := [0, 7]) (by kernel_rfl) (by simp) ?_
              refine AllReady.cons rfl (fun K hK => ?_) ?_
              ·
                go_simp
                refine hK _ _ ?_; clear hK K
                refine wpAny_take (i := 1) (v := ?_) rfl (by kernel_rfl) (by kernel_rfl) (by kernel_rfl) (fun _ _ _ h => h) (Or.inl ⟨by kernel_rfl, ?_⟩) ?_
                rotate_left 1
                · (intro w; go_simp <;> with_reducible rfl)
                go_simp
                refine wpAny_take (i := 2) (v := ?_) rfl (by kernel_rfl) (by kernel_rfl) (by kernel_rfl) (fun _ _ _ h => h) (Or.inl ⟨by kernel_rfl, ?_⟩) ?_
                rotate_left 1
                · (intro w; go_simp <;> with_reducible rfl)
                go_simp
                refine wpAny_ready (rs := [3, 7]) (by kernel_rfl) (by simp) ?_
                refine AllReady.cons rfl (fun K hK => ?_) ?_
                ·
                  go_simp
                  refine hK _ _ ?_; clear hK K
                  refine wpAny_ready (rs := [7]) (by kernel_rfl) (by simp) ?_
                  refine AllReady.cons rfl (fun K hK => ?_) ?_
                  ·
                    go_simp
                    refine hK _ _ ?_; clear hK K
                    refine wpAny_ready (rs := [8]) (by kernel_rfl) (by simp) ?_
                    refine AllReady.cons rfl (fun K hK => ?_) ?_
                    ·
                      go_simp
                      go_wp2_with ((go_at_call 18; refine HPX.out.mono ?_; rintro e2 w3 ⟨rfl, hb3⟩; have HB3 := Lib.hid (HBX.out _ (by rw [← HWS.out]; exact hb3)); clear hb3 HPX))
                      first | (refine hK _ _ ?_; clear hK K) | skip
                      refine wpAny_take (i := 9) (v := ?_) rfl (by kernel_rfl) (by kernel_rfl) (by kernel_rfl) (fun _ _ _ h => h) (Or.inl ⟨by kernel_rfl, ?_⟩) ?_
                      rotate_left 1
                      · (intro w; go_simp <;> with_reducible rfl)
                      go_simp
                      refine wpAny_take (i := 10) (v := ?_) rfl (by kernel_rfl) (by kernel_rfl) (by kernel_rfl) (fun _ _ _ h => h) (Or.inl ⟨by kernel_rfl, ?_⟩) ?_
                      rotate_left 1
                      · (intro w; go_simp <;> with_reducible rfl)
                      go_simp
                      refine wpAny_take (i := 11) (v := ?_) rfl (by kernel_rfl) (by kernel_rfl) (by kernel_rfl) (fun _ _ _ h => h) (Or.inl ⟨by kernel_rfl, ?_⟩) ?_
                      rotate_left 1
                      · (intro w; go_simp <;> with_reducible rfl)
                      go_simp
                      refine wpAny_take (i := 12) (v := ?_) rfl (by kernel_rfl) (by kernel_rfl) (by kernel_rfl) (fun _ _ _ h => h) (Or.inl ⟨by kernel_rfl, ?_⟩) ?_
                      rotate_left 1
                      · (intro w; go_simp <;> with_reducible rfl)
                      go_simp
                      refine wpAny_take (i := 13) (v := ?_) rfl (by kernel_rfl) (by kernel_rfl) (by kernel_rfl) (fun _ _ _ h => h) (Or.inl ⟨by kernel_rfl, ?_⟩) ?_
                      rotate_left 1
                      · (intro w; go_simp <;> with_reducible rfl)
                      go_simp
                      refine wpAny_take (i := 14) (v := ?_) rfl (by kernel_rfl) (by kernel_rfl) (by kernel_rfl) (fun _ _ _ h => h) (Or.inl ⟨by kernel_rfl, ?_⟩) ?_
                      rotate_left 1
                      · (intro w; go_simp <;> with_reducible rfl)
                      go_simp
                      refine wpAny_take (i := 15) (v := ?_) rfl (by kernel_rfl) (by kernel_rfl) (by kernel_rfl) (fun _ _ _ h => h) (Or.inl ⟨by kernel_rfl, ?_⟩) ?_
                      rotate_left 1
                      · (intro w; go_simp <;> with_reducible rfl)
                      go_simp
                      refine wpAny_done (by kernel_rfl) ?_ _
                      clear z0 z1 z6 zj
                      go_wp2_with fail
                      go_meet
                      exact ⟨rfl, rfl, rfl, HB3⟩
                    exact AllReady.nil
                  exact AllReady.nil
                refine AllReady.cons rfl (fun K hK => ?_) ?_
                ·
                  go_simp
                  refine hK _ _ ?_; clear hK K
                  refine wpAny_ready (rs := [3]) (by kernel_rfl) (by simp) ?_
                  refine AllReady.cons rfl (fun K hK => ?_) ?_
                  ·
                    go_simp
                    refine hK _ _ ?_; clear hK K
                    refine wpAny_ready (rs := [8]) (by kernel_rfl) (by simp) ?_
                    refine AllReady.cons rfl (fun K hK => ?_) ?_
                    ·
                      go_simp
                      go_wp2_with ((go_at_call 18; refine HPX.out.mono ?_; rintro e2 w3 ⟨rfl, hb3⟩; have HB3 := Lib.hid (HBX.out _ (by rw [← HWS.out]; exact hb3)); clear hb3 HPX))
                      first | (refine hK _ _ ?_; clear hK K) | skip
                      refine wpAny_take (i := 9) (v := ?_) rfl (by kernel_rfl) (by kernel_rfl) (by kernel_rfl) (fun _ _ _ h => h) (Or.inl ⟨by kernel_rfl, ?_⟩) ?_
                      rotate_left 1
                      · (intro w; go_simp <;> with_reducible rfl)
                      go_simp
                      refine wpAny_take (i := 10) (v := ?_) rfl (by kernel_rfl) (by kernel_rfl) (by kernel_rfl) (fun _ _ _ h => h) (Or.inl ⟨by kernel_rfl, ?_⟩) ?_
                      rotate_left 1
                      · (intro w; go_simp <;> with_reducible rfl)
                      go_simp
                      refine wpAny_take (i := 11) (v := ?_) rfl (by kernel_rfl) (by kernel_rfl) (by kernel_rfl) (fun _ _ _ h => h) (Or.inl ⟨by kernel_rfl, ?_⟩) ?_
                      rotate_left 1
                      · (intro w; go_simp <;> with_reducible rfl)
                      go_simp
                      refine wpAny_take (i := 12) (v := ?_) rfl (by kernel_rfl) (by kernel_rfl) (by kernel_rfl) (fun _ _ _ h => h) (Or.inl ⟨by kernel_rfl, ?_⟩) ?_
                      rotate_left 1
                      · (intro w; go_simp <;> with_reducible rfl)
                      go_simp
                      refine wpAny_take (i := 13) (v := ?_) rfl (by kernel_rfl) (by kernel_rfl) (by kernel_rfl) (fun _ _ _ h => h) (Or.inl ⟨by kernel_rfl, ?_⟩) ?_
                      rotate_left 1
                      · (intro w; go_simp <;> with_reducible rfl)
                      go_simp
                      refine wpAny_take (i := 14) (v := ?_) rfl (by kernel_rfl) (by kernel_rfl) (by kernel_rfl) (fun _ _ _ h => h) (Or.inl ⟨by kernel_rfl, ?_⟩) ?_
                      rotate_left 1
                      · (intro w; go_simp <;> with_reducible rfl)
                      go_simp
                      refine wpAny_take (i := 15) (v := ?_) rfl (by kernel_rfl) (by kernel_rfl) (by kernel_rfl) (fun _ _ _ h => h) (Or.inl ⟨by kernel_rfl, ?_⟩) ?_
                      rotate_left 1
                      · (intro w; go_simp <;> with_reducible rfl)
                      go_simp
                      refine wpAny_done (by kernel_rfl) ?_ _
                      clear z0 z1 z6 zj
                      go_wp2_with fail
                      go_meet
                      exact ⟨rfl, rfl, rfl, HB3⟩
                    exact AllReady.nil
                  exact AllReady.nil
                exact AllReady.nil
              refine AllReady.cons rfl (fun K hK => ?_) ?_
              ·
                go_simp
                refine hK _ _ ?_; clear hK K
                refine wpAny_ready (rs := [0]) (by kernel_rfl) (by simp) ?_
                refine AllReady.cons rfl (fun K hK => ?_) ?_
                ·
                  go_simp
                  refine hK _ _ ?_; clear hK K
                  refine wpAny_take (i := 1) (v := ?_) rfl (by kernel_rfl) (by kernel_rfl) (by kernel_rfl) (fun _ _ _ h => h) (Or.inl ⟨by kernel_rfl, ?_⟩) ?_
                  rotate_left 1
                  · (intro w; go_simp <;> with_reducible rfl)
                  go_simp
                  refine wpAny_take (i := 2) (v := ?_) rfl (by kernel_rfl) (by kernel_rfl) (by kernel_rfl) (fun _ _ _ h => h) (Or.inl ⟨by kernel_rfl, ?_⟩) ?_
                  rotate_left 1
                  · (intro w; go_simp <;> with_reducible rfl)
                  go_simp
                  refine wpAny_ready (rs := [3]) (by kernel_rfl) (by simp) ?_
                  refine AllReady.cons rfl (fun K hK => ?_) ?_
                  ·
                    go_simp
                    refine hK _ _ ?_; clear hK K
                    refine wpAny_ready (rs := [8]) (by kernel_rfl) (by simp) ?_
                    refine AllReady.cons rfl (fun K hK => ?_) ?_
                    ·
                      go_simp
                      go_wp2_with ((go_at_call 18; refine HPX.out.mono ?_; rintro e2 w3 ⟨rfl, hb3⟩; have HB3 := Lib.hid (HBX.out _ (by rw [← HWS.out]; exact hb3)); clear hb3 HPX))
                      first | (refine hK _ _ ?_; clear hK K) | skip
                      refine wpAny_take (i := 9) (v := ?_) rfl (by kernel_rfl) (by kernel_rfl) (by kernel_rfl) (fun _ _ _ h => h) (Or.inl ⟨by kernel_rfl, ?_⟩) ?_
                      rotate_left 1
                      · (intro w; go_simp <;> with_reducible rfl)
                      go_simp
                      refine wpAny_take (i := 10) (v := ?_) rfl (by kernel_rfl) (by kernel_rfl) (by kernel_rfl) (fun _ _ _ h => h) (Or.inl ⟨by kernel_rfl, ?_⟩) ?_
                      rotate_left 1
                      · (intro w; go_simp <;> with_reducible rfl)
                      go_simp
                      refine wpAny_take (i := 11) (v := ?_) rfl (by kernel_rfl) (by kernel_rfl) (by kernel_rfl) (fun _ _ _ h => h) (Or.inl ⟨by kernel_rfl, ?_⟩) ?_
                      rotate_left 1
                      · (intro w; go_simp <;> with_reducible rfl)
                      go_simp
                      refine wpAny_take (i := 12) (v := ?_) rfl (by kernel_rfl) (by kernel_rfl) (by kernel_rfl) (fun _ _ _ h => h) (Or.inl ⟨by kernel_rfl, ?_⟩) ?_
                      rotate_left 1
                      · (intro w; go_simp <;> with_reducible rfl)
                      go_simp
                      refine wpAny_take (i := 13) (v := ?_) rfl (by kernel_rfl) (by kernel_rfl) (by kernel_rfl) (fun _ _ _ h => h) (Or.inl ⟨by kernel_rfl, ?_⟩) ?_
                      rotate_left 1
                      · (intro w; go_simp <;> with_reducible rfl)
                      go_simp
                      refine wpAny_take (i := 14) (v := ?_) rfl (by kernel_rfl) (by kernel_rfl) (by kernel_rfl) (fun _ _ _ h => h) (Or.inl ⟨by kernel_rfl, ?_⟩) ?_
                      rotate_left 1
                      · (intro w; go_simp <;> with_reducible rfl)
                      go_simp
                      refine wpAny_take (i := 15) (v := ?_) rfl (by kernel_rfl) (by kernel_rfl) (by kernel_rfl) (fun _ _ _ h => h) (Or.inl ⟨by kernel_rfl, ?_⟩) ?_
                      rotate_left 1
                      · (intro w; go_simp <;> with_reducible rfl)
                      go_simp
                      refine wpAny_done (by kernel_rfl) ?_ _
                      clear z0 z1 z6 zj
                      go_wp2_with fail
                      go_meet
                      exact ⟨rfl, rfl, rfl, HB3⟩
                    exact AllReady.nil
                  exact AllReady.nil
                exact AllReady.nil
              exact AllReady.nil
            exact AllReady.nil
          case rest =>
          obtain ⟨rfl, rfl, rfl, HB⟩ := hcut
          clear HPA HBX c2 c6 cj hcb
          cases ob with
          | false =>
            have HN2 := Lib.hid (HNO.out rfl _ HB.out)
            clear HNO HYE HB
            go_wp2_with fail
            go_roundw
            case rel => exact ⟨j + 1, C, by go_num, by omega, HN2⟩
            case measure => have := HCL.out; simp [intOf]; omega
          | true =>
            obtain ⟨ya, yb, yB, yE, yj, yl⟩ := HYE.out rfl
            have HM1 := Lib.hid (HME.out wc b5 b2 b6 bm C (HU.out _ HB.out) (by have := HCL.out; omega) a ya)
            have HM2 : Hid (∀ w4, UnmTo w.heap.size w q.bk b5 b2 b6 bm (meetK s.K C (a / 2)) w4 → Calls Try.prog 53 #[.int .u32 (b : Int), .pointer (some ⟨b5, 0, none⟩), .pointer (some ⟨b2, 0, none⟩), .pointer (some ⟨b6, 0, none⟩)] w4
              fun r w' => r = .returned (.tuple #[]) ∧ UnmTo w.heap.size w q.bk b5 b2 b6 bm (meetK s.K (meetK s.K C (a / 2)) (b / 2)) w') := fun w4 hu => HME.out w4 b5 b2 b6 bm _ hu yl b yb
            have HYB := Lib.hid yB
            have HYM := Lib.hid yE
            have HYJ := Lib.hid yj
            generalize meetK s.K (meetK s.K C (a / 2)) (b / 2) = C2 at *
            generalize meetK s.K C (a / 2) = C1 at *
            clear HNO HYE HB ya yb yB yE yj yl
            go_wp2_with fail
            refine HM1.out.mono ?_
            rintro e w4 ⟨rfl, hu4⟩
            have HM3 := Lib.hid (HM2.out w4 hu4)
            clear hu4 HM1 HM2
            go_wp2_with fail
            refine HM3.out.mono ?_
            rintro e w5 ⟨rfl, hu5⟩
            have HN3 : Hid (UsAt w gs s.K l q.bk b5 b2 b6 bm k (j + 1) C2 w5) := ⟨hu5, HYB.out, HYM.out⟩
            clear hu5 HM3
            go_wp2_with fail
            go_roundw
            case rel => exact ⟨j + 1, C2, by go_num, HYJ.out, HN3⟩
            case measure => have := HCL.out; simp [intOf]; omega
        · have tk : decide ((j : Int) < (C.length : Int)) = false := decide_eq_false (by omega)
          have tk2 : decide (j < C.length) = false := decide_eq_false hlt
          obtain rfl : j = C.length := by omega
          have HSO := Lib.hid (gsort_sl hA.rw (by have := hB.len; omega))
          have HFN : Hid (∀ w5 D, D.Perm C → D.Pairwise (· ≤ ·) → SlV 3 1 w5 Ac C.length cc (numF .i64 D) → Kf (fun k => onB Ac k) wr w5 → w5.cell? ⟨b6, 0, none⟩ = some (.slice Ac C.length cc) ∧ UnkTo gs s.K l w (.returned (.slice Ac C.length cc)) w5) := fun w5 D h1 h2 h3 h4 => by
            have n6 : ¬ onB Ac b6 := fun e => by
              rcases hA.rw with ⟨e1, _⟩ | ⟨g, e1, cur, h3, _⟩
              · rw [e1] at e; exact onB_none _ e
              · rw [e1, onB_some] at e
                have e : b6 = g := e
                exact apart hA.v6 h3 (by decide) e
            have e6 : w5.heap[b6]? = wr.heap[b6]? := h4.block b6 (lt_of_heap hA.v6) n6
            have hlen := h1.length_eq
            have hll : k = l.length := HL.out.len.symm
            subst hll
            refine ⟨by rw [World.cell?_of_block (a := ⟨b6, 0, none⟩) e6]; exact c6, D, Ac, cc, by rw [hlen], hB.done h1, fun ha => ?_, by rw [SlN, hlen]; exact h3, hA.la, hA.be.trans (h4.below hA.hB fun x hx => hA.la x hx)⟩
            have hC0 := hE fun i hi => ha _ (ngetD hi)
            subst hC0
            exact List.length_eq_zero_iff.1 hlen
          clear hA hB hC hE c2
          go_wp2_with fail
          refine HSO.out.mono ?_
          rintro e w5 ⟨rfl, D, h1, h2, h3, h4⟩
          obtain ⟨d6, hF⟩ := HFN.out w5 D h1 h2 h3 h4
          have HF := Lib.hid hF
          clear h1 h2 h3 h4 hF HFN HSO c6
          go_wp2_with fail
          go_ret
          exact HF.out
end Go.Proofs.Ytmiifhclcknhdaa
