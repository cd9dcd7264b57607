/- A hand's remove: its contract. -/
import Derived.Test.YtkckodpfhlpkgaaGreatHandA
namespace Go.Proofs.YtkckodpfhlpkgaaGreat
open Go.RowKit LitM TrailM EngM

/-- What a hand's remove leaves. -/
def HRem (B : Nat) (w0 w : World) (h : HdC) (c : TmC) (S : Eng) (q : Pm) (n : Nat) (xs : List Int) (e : Ending) (w' : World) : Prop :=
  ∃ ys, IsClean xs ys ∧ ((h.ns (keyL ys) = [] ∧ e = .returned (.bool false) ∧ Below w.heap.size w w') ∨
    (∃ z, h.ns (keyL ys) = [z] ∧ e = .returned (.bool true) ∧ ∃ (h' : HdC) (s : Bool × Int × Eng) (q' : Pm), HdG B w0 w' h' { c with settled := s.1, gone := s.2.1, stuck := false } s.2.2 q' ∧ TmOk { c with settled := s.1, gone := s.2.1, stuck := false } s.2.2 n ∧ ∃ id, c.pl z = some id ∧ But S s.2.2 id ∧ (h'.bh = h.bh ∧ h'.bm = h.bm ∧ h'.n = h.n ∧ h'.given = h.given ∧ h'.nc = h.nc ∧ h'.last = h.last) ∧ h'.ns = updL h.ns (keyL ys) [] ∧
      (∀ k, k < w.heap.size → q.own k = .no → c.tl k = .no → h.hl k = .no → w'.heap[k]? = w.heap[k]? ∧ q'.own k = .no ∧ c.tl k = .no ∧ h'.hl k = .no) ∧ w.heap.size ≤ w'.heap.size) ∨
    (2 ≤ (h.ns (keyL ys)).length ∧ e = .returned (.bool true) ∧ ∃ h', HdG B w0 w' h' c S q ∧ (h'.bh = h.bh ∧ h'.bm = h.bm ∧ h'.n = h.n + 1 ∧ h'.given = h.given ∧ h'.nc = h.nc ∧ h'.last = h.last) ∧ h'.ns = updL h.ns (keyL ys) (h.ns (keyL ys)).dropLast ∧
      (∀ k, k < w.heap.size → q.own k = .no → c.tl k = .no → h.hl k = .no → w'.heap[k]? = w.heap[k]? ∧ q.own k = .no ∧ c.tl k = .no ∧ h'.hl k = .no) ∧ w.heap.size ≤ w'.heap.size))
section
variable {B n : Nat} {w0 w w' : World} {h : HdC} {c c' : TmC} {S S' : Eng} {q q' : Pm}
set_option maxHeartbeats 6400000 in
set_option maxRecDepth 100000 in
theorem hremove_any (H : HdG B w0 w h c S q) (ho : TmOk c S n) (hcn : S.cs.length ≤ 20000) (hnp : c.np ≤ 90000) (hn : h.n < 100000) (hns : ∀ s, (h.ns s).length ≤ 90000) (A : Option Addr) (m cp : Nat) (xs : List Int) (hr : Rd .i32 w w.heap.size A m xs) (hm : m * 4 ≤ 140737488351232) (ha : allOne xs = true) (hm2 : ∀ ys, IsClean xs ys → ys.length ≤ 10000)
    (hid : ∀ ys, IsClean xs ys → ∀ z r, h.ns (keyL ys) = z :: r → z < c.np ∧ ∃ id, c.pl z = some id ∧ id < S.cs.length ∧ (clA S.cs id).pr = true) :
    Calls Tryz.prog 31 #[.pointer (some ⟨h.bh, 0, none⟩), .slice A m cp] w (HRem B w0 w h c S q n xs) := by
  have HK := Lib.hid (key_any A m cp xs w hr hm ha hm2)
  have HM2 := Lib.hid hm2
  have HID := Lib.hid hid
  have HH := Lib.hid H
  have HO := Lib.hid ho
  have HNS := Lib.hid hns
  have HCN := Lib.hid hcn
  have HNP := Lib.hid hnp
  have HNM : Hid (h.n < maxLen) := by unfold Hid maxLen; omega
  clear H hr hm ha hm2 hcn hnp hns hn hid ho
  go_enter Tryz.func31, Tryz.ntmps31
  go_wp2_with fail
  refine HK.out.mono ?_
  rintro e w1 ⟨ys, hc, rfl, hb1⟩
  have hlm : (keyL ys).length ≤ maxLen := by
    rw [keyL_len]
    have := HM2.out ys hc
    unfold maxLen; omega
  have hid := HID.out ys hc
  have hks : keyS ys = ⟨(keyL ys).toArray⟩ := rfl
  rw [hks]
  obtain ⟨l, hl⟩ : ∃ l, l = keyL ys := ⟨_, rfl⟩
  rw [← hl]
  rw [← hl] at hlm hid
  have HLM := Lib.hid hlm
  have HLE := Lib.hid hl
  have HC := Lib.hid hc
  have H1 := HH.out.below hb1
  have HB1 := Lib.hid hb1
  obtain ⟨c0, c1, _⟩ := H1.cells
  have HMP1 := Lib.hid H1.mp
  have hns0 : (h.ns l).length ≤ 90000 := HNS.out l
  clear HK HM2 hlm hl hc hb1 hks HID HNS
  rcases hz : h.ns l with _ | ⟨z0, _ | ⟨z1, zr⟩⟩
  · have hv : h.hdV l = .slice (h.hd l).1 0 (h.hd l).2 := by unfold HdC.hdV; rw [hz]; rfl
    have HFin : Hid (HRem B w0 w h c S q n xs (.returned (.bool false)) w1) := ⟨ys, HC.out, .inl ⟨by rw [← HLE.out]; exact hz, rfl, HB1.out⟩⟩
    clear hz H1 hns0 hid
    go_wp2_with (at_lookup; refine wpList_lookup_raw _ rfl _ _ 47 rfl Tryz.underlying47 h.bm h.n h.hdV rfl HMP1.out l HLM.out rfl _ hv ?_)
    go_ret
    exact HFin.out
  · have hv : h.hdV l = .slice (h.hd l).1 1 (h.hd l).2 := by unfold HdC.hdV; rw [hz]; rfl
    obtain ⟨hz1, id, hz2, hz3, hz4⟩ := hid z0 [] hz
    have HZ := Lib.hid hz
    have HPL := Lib.hid hz2
    have hsl := H1.ls l
    rw [hz] at hsl
    obtain ⟨g0, hg0, hrow⟩ := hsl.row (by simp)
    have hcell : w1.cell? ⟨g0, 0, none⟩ = some (.int .i64 (z0 : Nat)) := hrow.cell (j := 0) (by simp)
    have hbd := hrow.bd
    obtain ⟨hbd1, hbd2⟩ := hbd
    simp only [List.length_cons, List.length_nil, Nat.zero_add] at hbd1
    rw [hg0] at hv
    have HTR : Hid (∀ V, Below w1.heap.size w1 V → Calls Tryz.prog 51 #[.pointer (some ⟨c.bt, 0, none⟩), .int .i64 (z0 : Nat)] V fun e w' => e = .returned (.tuple #[]) ∧ ∃ (s : Bool × Int × Eng) (q' : Pm), TmG B w0 w' { c with settled := s.1, gone := s.2.1, stuck := false } s.2.2 q' ∧ TExt c.tl q q' w1 w' ∧ TmOk { c with settled := s.1, gone := s.2.1, stuck := false } s.2.2 n ∧ But S s.2.2 id) := fun V hV =>
      (tremove_any (H1.tm.below hV) HO.out HCN.out z0 id hz1 HNP.out hz2 hz3 hz4).mono fun e w' ⟨he, s, q', a1, a2, a3, a4⟩ => ⟨he, s, q', a1, (TExt.below hV).trans a2, a3, a4⟩
    have hb5 : Below w1.heap.size w1 w1.drew := (Below.refl _ _).drew
    clear hz hz1 hz2 hz3 hz4 hns0 hid hsl hrow
    go_wp2_with (at_lookup; refine wpList_lookup_raw _ rfl _ _ 47 rfl Tryz.underlying47 h.bm h.n h.hdV rfl HMP1.out l HLM.out rfl _ hv ?_)
    go_upto_region 8 with (fail)
    clear hv
    refine wp_region_any (by kernel_rfl) ?_
    change wpAny _ _ _ _ _ _ _ (World.drew _)
    refine wpAny_take (i := 0) (v := ?_) rfl (by kernel_rfl) (by kernel_rfl) (by kernel_rfl) (fun _ _ _ h => h) (Or.inl ⟨by kernel_rfl, ?_⟩) ?_
    rotate_left 1
    · (intro w; go_simp <;> with_reducible rfl)
    go_simp
    refine wpAny_take (i := 1) (v := ?_) rfl (by kernel_rfl) (by kernel_rfl) (by kernel_rfl) (fun _ _ _ h => h) (Or.inl ⟨by kernel_rfl, ?_⟩) ?_
    rotate_left 1
    · (intro w; go_simp <;> with_reducible rfl)
    go_simp
    refine wpAny_take (i := 2) (v := ?_) rfl (by kernel_rfl) (by kernel_rfl) (by kernel_rfl) (fun _ _ _ h => h) (Or.inl ⟨by kernel_rfl, ?_⟩) ?_
    rotate_left 1
    · (intro w; go_simp <;> with_reducible rfl)
    go_simp
    refine wpAny_take (i := 4) (v := ?_) rfl (by kernel_rfl) (by kernel_rfl) (by kernel_rfl) (fun _ _ _ h => h) (Or.inl ⟨by kernel_rfl, ?_⟩) ?_
    rotate_left 1
    · (intro w; go_simp <;> with_reducible rfl)
    go_simp
    refine wpAny_take (i := 5) (v := ?_) rfl (by kernel_rfl) (by kernel_rfl) (by kernel_rfl) (fun _ _ _ h => h) (Or.inl ⟨by kernel_rfl, ?_⟩) ?_
    rotate_left 1
    · (intro w; go_simp <;> with_reducible rfl)
    go_simp
    refine wpAny_ready (rs := [3, 6]) (by kernel_rfl) (by simp) ?_
    refine AllReady.cons rfl (fun K hK => ?_) ?_
    ·
      go_simp
      refine hK _ _ ?_; clear hK K
      refine wpAny_ready (rs := [6]) (by kernel_rfl) (by simp) ?_
      refine AllReady.cons rfl (fun K hK => ?_) ?_
      ·
        go_simp
        refine hK _ _ ?_; clear hK K
        refine wpAny_ready (rs := [7]) (by kernel_rfl) (by simp) ?_
        refine AllReady.cons rfl (fun K hK => ?_) ?_
        ·
          go_simp
          go_wp2_with (first | (go_at_call 51; refine (HTR.out _ (by assumption)).mono ?_; rintro e w2 ⟨rfl, s, q2, hT, hx, hok, hbut⟩))
          first | (refine hK _ _ ?_; clear hK K) | skip
          refine wpAny_done (by kernel_rfl) ?_ _
          have H2 := H1.team hT hx rfl (fun _ _ => rfl)
          have HX := Lib.hid hx
          have HOK := Lib.hid hok
          have HBU := Lib.hid hbut
          obtain ⟨c0, _⟩ := H2.cells
          have HMP2 := Lib.hid H2.mp
          have HDel : Hid (∀ w5, MapR w5 h.bm h.n (updK h.hdV l (.slice none 0 0)) → Kf (fun k => k = h.bm) w2 w5 → HRem B w0 w h c S q n xs (.returned (.bool true)) w5) := fun w5 a4 a5 => by
            obtain ⟨hl', b1, b2, b3⟩ := H2.turn (n' := h.n) (l := l) (A := none) (cp := 0) (zs := []) (Below.refl _ _) (SlV.nil _ _ _ _) (fun g hg => (onB_none g hg).elim) (Kf.refl _ _) a4 a5
            refine ⟨ys, HC.out, .inr (.inl ⟨z0, by rw [← HLE.out]; exact HZ.out, rfl, _, s, q2, b1, HOK.out, id, HPL.out, HBU.out, ⟨rfl, rfl, rfl, rfl, rfl, rfl⟩, by rw [← HLE.out], fun k hk o1 o2 o3 => ?_, Nat.le_trans HB1.out.size (Nat.le_trans HX.out.kf.size b3.size)⟩)⟩
            have hk1 : k < w1.heap.size := Nat.lt_of_lt_of_le hk HB1.out.size
            have hk2 : k < w2.heap.size := Nat.lt_of_lt_of_le hk1 HX.out.kf.size
            refine ⟨?_, by rw [HX.out.old k hk1]; exact o1, o2, by show hl' k = _; rw [b2 k hk2]; exact o3⟩
            rw [b3.block k hk2 (fun e => e o3), HX.out.kf.block k hk1 (fun e => by rcases e with e | e; exact e o1; exact e o2)]
            exact HB1.out.block k hk
          clear hT hx hok hbut H2 HTR hb5
          go_wp2_with (at_delete; refine wpList_delete_raw _ rfl _ _ 47 rfl Tryz.underlying47 h.bm h.n h.hdV rfl HMP2.out l HLM.out rfl ?_)
          intro w5 hm5 hk5
          have HFin := Lib.hid (HDel.out w5 hm5 hk5)
          clear hm5 hk5
          go_wp2_with fail
          go_ret
          exact HFin.out
        exact AllReady.nil
      exact AllReady.nil
    refine AllReady.cons rfl (fun K hK => ?_) ?_
    ·
      go_simp
      refine hK _ _ ?_; clear hK K
      refine wpAny_ready (rs := [3]) (by kernel_rfl) (by simp) ?_
      refine AllReady.cons rfl (fun K hK => ?_) ?_
      ·
        go_simp
        refine hK _ _ ?_; clear hK K
        refine wpAny_ready (rs := [7]) (by kernel_rfl) (by simp) ?_
        refine AllReady.cons rfl (fun K hK => ?_) ?_
        ·
          go_simp
          go_wp2_with (first | (go_at_call 51; refine (HTR.out _ (by assumption)).mono ?_; rintro e w2 ⟨rfl, s, q2, hT, hx, hok, hbut⟩))
          first | (refine hK _ _ ?_; clear hK K) | skip
          refine wpAny_done (by kernel_rfl) ?_ _
          have H2 := H1.team hT hx rfl (fun _ _ => rfl)
          have HX := Lib.hid hx
          have HOK := Lib.hid hok
          have HBU := Lib.hid hbut
          obtain ⟨c0, _⟩ := H2.cells
          have HMP2 := Lib.hid H2.mp
          have HDel : Hid (∀ w5, MapR w5 h.bm h.n (updK h.hdV l (.slice none 0 0)) → Kf (fun k => k = h.bm) w2 w5 → HRem B w0 w h c S q n xs (.returned (.bool true)) w5) := fun w5 a4 a5 => by
            obtain ⟨hl', b1, b2, b3⟩ := H2.turn (n' := h.n) (l := l) (A := none) (cp := 0) (zs := []) (Below.refl _ _) (SlV.nil _ _ _ _) (fun g hg => (onB_none g hg).elim) (Kf.refl _ _) a4 a5
            refine ⟨ys, HC.out, .inr (.inl ⟨z0, by rw [← HLE.out]; exact HZ.out, rfl, _, s, q2, b1, HOK.out, id, HPL.out, HBU.out, ⟨rfl, rfl, rfl, rfl, rfl, rfl⟩, by rw [← HLE.out], fun k hk o1 o2 o3 => ?_, Nat.le_trans HB1.out.size (Nat.le_trans HX.out.kf.size b3.size)⟩)⟩
            have hk1 : k < w1.heap.size := Nat.lt_of_lt_of_le hk HB1.out.size
            have hk2 : k < w2.heap.size := Nat.lt_of_lt_of_le hk1 HX.out.kf.size
            refine ⟨?_, by rw [HX.out.old k hk1]; exact o1, o2, by show hl' k = _; rw [b2 k hk2]; exact o3⟩
            rw [b3.block k hk2 (fun e => e o3), HX.out.kf.block k hk1 (fun e => by rcases e with e | e; exact e o1; exact e o2)]
            exact HB1.out.block k hk
          clear hT hx hok hbut H2 HTR hb5
          go_wp2_with (at_delete; refine wpList_delete_raw _ rfl _ _ 47 rfl Tryz.underlying47 h.bm h.n h.hdV rfl HMP2.out l HLM.out rfl ?_)
          intro w5 hm5 hk5
          have HFin := Lib.hid (HDel.out w5 hm5 hk5)
          clear hm5 hk5
          go_wp2_with fail
          go_ret
          exact HFin.out
        exact AllReady.nil
      exact AllReady.nil
    exact AllReady.nil
  · have hln : 2 ≤ (h.ns l).length := by rw [hz]; simp
    have hv : h.hdV l = .slice (h.hd l).1 (h.ns l).length (h.hd l).2 := rfl
    have t0 : (((h.ns l).length : Int) == 0) = false := by rw [beq_eq_false_iff_ne]; omega
    have t1 : (((h.ns l).length : Int) == 1) = false := by rw [beq_eq_false_iff_ne]; omega
    have hbd := (H1.ls l).bd
    obtain ⟨hbd1, hbd2⟩ := hbd
    have HPOP : Hid (∀ w5, MapR w5 h.bm (h.n + 1) (updK h.hdV l (.slice (h.hd l).1 ((h.ns l).length - 1) (h.hd l).2)) → Kf (fun k => k = h.bm) w1.drew w5 → HRem B w0 w h c S q n xs (.returned (.bool true)) w5) := fun w5 a4 a5 => by
      have hbx : Below w1.heap.size w1 w1.drew := (Below.refl _ _).drew
      have hdl : (h.ns l).dropLast.length = (h.ns l).length - 1 := by simp
      have hsl : SlV 3 1 w1.drew (h.hd l).1 (h.ns l).dropLast.length (h.hd l).2 (natC (h.ns l).dropLast) := by
        obtain ⟨g, hg, hrow⟩ := (H1.ls l).row (by omega)
        refine .inr ⟨g, hg, ?_⟩
        rw [hdl]
        refine ((hrow.same (by rfl)).less (by omega)).congr fun j hj => ?_
        unfold natC
        rw [List.getD, List.getD, List.getElem?_dropLast, if_pos (by omega)]
      obtain ⟨hl', b1, b2, b3⟩ := H1.turn (n' := h.n + 1) (l := l) hbx hsl (fun g hg => .inl hg) (Kf.refl _ _) (by rw [hdl]; exact a4) a5
      refine ⟨ys, HC.out, .inr (.inr ⟨by rw [← HLE.out]; exact hln, rfl, _, b1, ⟨rfl, rfl, rfl, rfl, rfl, rfl⟩, by rw [← HLE.out], fun k hk o1 o2 o3 => ?_, Nat.le_trans HB1.out.size b3.size⟩)⟩
      have hk1 : k < w1.heap.size := Nat.lt_of_lt_of_le hk HB1.out.size
      refine ⟨?_, o1, o2, by show hl' k = _; rw [b2 k hk1]; exact o3⟩
      rw [b3.block k hk1 (fun e => e o3)]
      exact HB1.out.block k hk
    have hbd3 : (h.ns l).length ≤ (h.hd l).2 + 1 := by omega
    have HMPd : Hid (MapR w1.drew h.bm h.n h.hdV) := H1.mp.same rfl
    have hwr : IntKind.i64.wrap (((h.ns l).length : Int) - 1) = (((h.ns l).length - 1 : Nat) : Int) := by
      rw [show IntKind.i64.wrap (((h.ns l).length : Int) - 1) = ((h.ns l).length : Int) - 1 from IntWalk.i64_in _ (by omega)]; omega
    clear hz hid H1
    go_wp2_with (at_lookup; refine wpList_lookup_raw _ rfl _ _ 47 rfl Tryz.underlying47 h.bm h.n h.hdV rfl HMP1.out l HLM.out rfl _ hv ?_)
    clear hv
    go_upto_region 4 with (fail)
    generalize (h.ns l).length = nl at *
    refine wp_region_any (by kernel_rfl) ?_
    change wpAny _ _ _ _ _ _ _ (World.drew _)
    refine wpAny_take (i := 0) (v := ?_) rfl (by kernel_rfl) (by kernel_rfl) (by kernel_rfl) (fun _ _ _ h => h) (Or.inl ⟨by kernel_rfl, ?_⟩) ?_
    rotate_left 1
    · (intro w; go_simp <;> with_reducible rfl)
    go_simp
    refine wpAny_take (i := 1) (v := ?_) rfl (by kernel_rfl) (by kernel_rfl) (by kernel_rfl) (fun _ _ _ h => h) (Or.inl ⟨by kernel_rfl, ?_⟩) ?_
    rotate_left 1
    · (intro w; go_simp <;> with_reducible rfl)
    go_simp
    refine wpAny_take (i := 2) (v := ?_) rfl (by kernel_rfl) (by kernel_rfl) (by kernel_rfl) (fun _ _ _ h => h) (Or.inl ⟨by kernel_rfl, ?_⟩) ?_
    rotate_left 1
    · (intro w; go_simp <;> with_reducible rfl)
    go_simp
    refine wpAny_take (i := 4) (v := ?_) rfl (by kernel_rfl) (by kernel_rfl) (by kernel_rfl) (fun _ _ _ h => h) (Or.inl ⟨by kernel_rfl, ?_⟩) ?_
    rotate_left 1
    · (intro w; go_simp <;> with_reducible rfl)
    go_simp
    refine wpAny_take (i := 5) (v := ?_) rfl (by kernel_rfl) (by kernel_rfl) (by kernel_rfl) (fun _ _ _ h => h) (Or.inl ⟨by kernel_rfl, ?_⟩) ?_
    rotate_left 1
    · (intro w; go_simp <;> with_reducible rfl)
    go_simp
    refine wpAny_take (i := 6) (v := ?_) rfl (by kernel_rfl) (by kernel_rfl) (by kernel_rfl) (fun _ _ _ h => h) (Or.inl ⟨by kernel_rfl, ?_⟩) ?_
    rotate_left 1
    · (intro w; go_simp <;> with_reducible rfl)
    go_simp
    refine wpAny_take (i := 7) (v := ?_) rfl (by kernel_rfl) (by kernel_rfl) (by kernel_rfl) (fun _ _ _ h => h) (Or.inl ⟨by kernel_rfl, ?_⟩) ?_
    rotate_left 1
    · (intro w; go_simp <;> with_reducible rfl)
    go_simp
    refine wpAny_take (i := 8) (v := ?_) rfl (by kernel_rfl) (by kernel_rfl) (by kernel_rfl) (fun _ _ _ h => h) (Or.inl ⟨by kernel_rfl, ?_⟩) ?_
    rotate_left 1
    · (intro w; go_simp <;> with_reducible rfl)
    go_simp
    refine wpAny_take (i := 9) (v := ?_) rfl (by kernel_rfl) (by kernel_rfl) (by kernel_rfl) (fun _ _ _ h => h) (Or.inl ⟨by kernel_rfl, ?_⟩) ?_
    rotate_left 1
    · (intro w; go_simp <;> with_reducible rfl)
    go_simp
    refine wpAny_ready (rs := [3]) (by kernel_rfl) (by simp) ?_
    refine AllReady.cons rfl (fun K hK => ?_) ?_
    ·
      go_simp
      refine hK _ _ ?_; clear hK K
      refine wpAny_ready (rs := [10]) (by kernel_rfl) (by simp) ?_
      refine AllReady.cons rfl (fun K hK => ?_) ?_
      ·
        refine step_mapUpdate_raw w1.drew rfl _ _ _ 47 rfl Tryz.underlying47 h.bm h.n h.hdV rfl HMPd.out HNM.out l HLM.out rfl _ rfl ?_
        intro w5 hm5 hk6
        refine hK _ _ ?_; clear hK K
        refine wpAny_done (by kernel_rfl) ?_ _
        have HFin := Lib.hid (HPOP.out w5 hm5 hk6)
        clear hm5 hk6
        go_wp2_with fail
        go_ret
        exact HFin.out
      exact AllReady.nil
    exact AllReady.nil
end
end Go.Proofs.YtkckodpfhlpkgaaGreat
