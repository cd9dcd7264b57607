/- The contract of a draft's resolve: a range over a function, from the last literal on. -/
import Derived.Test.YtdecejhobefefaaBwd
import Derived.Test.YtdecejhobefefaaLrnB
import Derived.Maps.OwnIn
import Derived.Sort.CutIn
namespace Go.Proofs.Ytdecejhobefefaa
open Go.RowKit Go.Shelf LitM TrailM EngM
attribute [local go_sem] Oper.semAt_some

theorem mlen {S : Eng} (hI : Inv S) {M : List Int} (hn : M.Nodup) (hf : ∀ y ∈ M, valZ S.L y = -1) : M.length ≤ S.L.length := by
  have h1 : (M.map fun y => -y).Nodup := by
    refine List.Pairwise.map _ (fun a b h e => h ?_) hn
    have e : -a = -b := e
    omega
  have h2 := List.Nodup.length_le_of_subset h1 (l₂ := S.L.map Ent.l) (fun x hx => by
    obtain ⟨y, hy, rfl⟩ := List.mem_map.1 hx
    obtain ⟨_, j, z, hz, e, _⟩ := false_at hI (hf y hy)
    exact List.mem_map.2 ⟨z, List.mem_of_getElem? hz, e⟩)
  simpa using h2
theorem cntM_del {S : Eng} {t : Nat} {M : List Int} {l : Int} (hn : M.Nodup) (hl : l ∈ M) (hv : lvl S l = (t : Int)) : cntM S t (M.filter fun y => decide (y ≠ l)) = cntM S t M - 1 := by
  unfold cntM
  have h1 : l ∈ M.filter fun l => decide (lvl S l = (t : Int)) := List.mem_filter.2 ⟨hl, by simpa using hv⟩
  have h2 : (M.filter fun l => decide (lvl S l = (t : Int))).Nodup := hn.sublist List.filter_sublist
  rw [← List.length_erase_of_mem h1, h2.erase_eq_filter, List.filter_filter, List.filter_filter]
  congr 1
  apply List.filter_congr
  intro y _
  by_cases e : y = l <;> by_cases e2 : lvl S y = (t : Int) <;> simp [e, e2]
theorem reaL_ok {S : Eng} (hI : Inv S) (v : Int) : (∀ l ∈ reaL S v, LitM.one l = true ∧ varZ l ≤ S.n) ∧ (reaL S v).length ≤ 90000 := by
  obtain ⟨_, t2, t3, t4⟩ := rea_there hI v
  by_cases h : 0 ≤ reaZ S.L v
  · rw [t4 h]
    obtain ⟨a, _, c, _⟩ := hI.small.cl _ (t2 h)
    exact ⟨a, c⟩
  · rw [t3 h]; simp
/-- The draft between two rounds: w where the loop begins. -/
structure DrS (w W : World) (b bd bm n t : Nat) (S : Eng) (M : List Int) : Prop where
  blk : DrB W b bd bm t (cntM S t M : Nat)
  mp : MapZ W S bm n M
  nd : M.Nodup
  fl : ∀ y ∈ M, valZ S.L y = -1
  kf : Kf (fun k => k = bd ∨ k = bm) w W
set_option maxHeartbeats 6400000 in
set_option maxRecDepth 100000 in
theorem dresolve_any {w : World} {b bd bm n t : Nat} {q : Pm} {S : Eng} {d : Nat} {M : List Int} (h : E6 w b q S d) (hI : Inv S) (hDI : DecI S) (o1 : q.own bd = .no) (o2 : q.own bm = .no)
    (hD : DrB w b bd bm t (cntM S t M : Nat)) (hM : MapZ w S bm n M) (hG : Good S t S.L.length M) (hn : n ≤ 90000) (ht : 0 < t) :
    Calls Try.prog 62 #[.pointer (some ⟨bd, 0, none⟩)] w fun e w' => e = .returned (.tuple #[]) ∧ ∃ M' k n', Good S t k M' ∧ cntM S t M' = 1 ∧ DrB w' b bd bm t 1 ∧ MapZ w' S bm n' M' ∧ Kf (fun k => k = bd ∨ k = bm) w w' := by
  have HTr : Hid (∀ W, Below w.heap.size w W → Calls Try.prog 28 #[.pointer (some ⟨b, 0, none⟩)] W (TruTo S.L W)) := fun W hW => etrue_any (h.below hW) hI.small.n
  have c0 := hD.c0
  have hbl := hD.lt
  refine (callsIn_wide (n := 9)).1 ?_
  refine callsIn_of_wp_marks Try.func62 rfl trivial ?_ rfl
  simp only [Try.ntmps62, List.size_toArray, List.length_cons, List.length_nil, Nat.reduceAdd, Nat.reduceSub, Array.replicate_succ, Array.replicate_zero, List.push_toArray, List.append_toArray, List.nil_append, List.cons_append]
  have hb1 : Below w.heap.size w (w.alloc (.cells #[.pointer (some ⟨bd, 0, none⟩)] 102)) := (Below.refl _ _).alloc (Nat.le_refl _) _
  obtain ⟨w1, hw1⟩ : ∃ w1, w1 = w.alloc (.cells #[.pointer (some ⟨bd, 0, none⟩)] 102) := ⟨_, rfl⟩
  have hs1 : w1.heap.size = w.heap.size + 1 := by rw [hw1]; simp
  have hbx : w1.cell? ⟨w.heap.size, 0, none⟩ = some (.pointer (some ⟨bd, 0, none⟩)) := by rw [hw1]; exact Lib.cell_of_heap (blk_new w _) 0
  rw [← hw1] at hb1
  gi_wp2
  rw [← hw1]
  refine ⟨trivial, (callsIn_wide.2 (HTr.out w1 hb1)).mono ?_⟩
  rintro e w2 ⟨rfl, hrow, hb2⟩
  have hs2 := hrow.lt
  rw [hs1] at hrow hs2
  gi_wp2
  refine ⟨trivial, (callsIn_wide.2 (backward_any _ _ _ w2)).mono ?_⟩
  rintro e w3 ⟨rfl, hw3⟩
  have hs3 : w3.heap.size = w2.heap.size + 1 := by rw [hw3]; simp
  have hb3 : Below w2.heap.size w2 w3 := by rw [hw3]; exact (Below.refl _ _).alloc (Nat.le_refl _) _
  obtain ⟨zs, hzs⟩ : ∃ zs, zs = S.L.map Ent.l := ⟨_, rfl⟩
  have hzl : zs.length = S.L.length := by rw [hzs]; simp
  have hlen := hI.ok.len
  have hn9 := hI.small.n
  have hbs : w3.cell? ⟨w2.heap.size, 0, none⟩ = some (.slice (some ⟨w.heap.size + 1, 0, none⟩) zs.length S.L.length) := by rw [hw3, hzl]; exact Lib.cell_of_heap (blk_new w2 _) 0
  have hgt : ∀ j, j < zs.length → w3.cell? ⟨w.heap.size + 1, j, none⟩ = some (.int .i32 (zs[j]?.getD 0)) := fun j hj => by
    rw [hb3.cell (p := ⟨w.heap.size + 1, j, none⟩) hs2, hrow.cell (show j < S.L.length * 1 by omega)]
    unfold lsC
    rw [← hzs, List.getD]
  have hbm := hM.lt
  have hB13 : Below w.heap.size w w3 := (hb1.trans (hb2.mono (by omega))).trans (hb3.mono (by have := hb2.size; omega))
  have hsz := hb2.size
  have hbx3 : w3.cell? ⟨w.heap.size, 0, none⟩ = some (.pointer (some ⟨bd, 0, none⟩)) := by
    rw [hb3.cell (p := ⟨w.heap.size, 0, none⟩) (by show w.heap.size < _; omega), hb2.cell (p := ⟨w.heap.size, 0, none⟩) (by show w.heap.size < _; omega)]; exact hbx
  have HE3 : Hid (E6 w3 b q S d) := h.below hB13
  have HD3 : Hid (DrS w3 w3 b bd bm n t S M) := ⟨hD.same (hB13.block bd hbl), hM.same (hB13.block bm hbm), hG.nd, fun y hy => (hG.fl y hy).1, Kf.refl _ _⟩
  gi_wp2
  rw [← hw3]
  obtain ⟨bs, hbsE⟩ : ∃ bs, bs = w2.heap.size := ⟨_, rfl⟩
  obtain ⟨gt, hgtE⟩ : ∃ gt, gt = w.heap.size + 1 := ⟨_, rfl⟩
  obtain ⟨bx, hbxE⟩ : ∃ bx, bx = w.heap.size := ⟨_, rfl⟩
  rw [← hbsE] at hbs
  rw [← hgtE] at hbs hgt
  rw [← hbxE] at hbx3
  rw [← hbsE, ← hgtE, ← hbxE]
  have HSZ : Hid (bd < bx ∧ bm < bx ∧ bx < gt ∧ gt < bs ∧ bs < w3.heap.size) := by unfold Hid; omega
  have HBX := Lib.hid hbx3
  have HO := Lib.hid (show _ ∧ _ from ⟨o1, o2⟩)
  have HI := Lib.hid hI
  have HDI := Lib.hid hDI
  have HZ := Lib.hid hzs
  have HBW := Lib.hid hB13
  have HG := Lib.hid hG
  rw [← hzl]
  clear h hI hDI o1 o2 hD hM hG hw1 hw3 hzs hb1 hb2 hb3 hrow hbx hbx3 hbsE hgtE hbxE hs1 hs2 hs3 HTr c0 hsz hB13
  refine wpIn_rangeFunc_ownG rfl (by omega) (gf := 101) (lb := #[.pointer (some ⟨bs, 0, none⟩)]) rfl trivial (enters_of Try.func101 (by kernel_rfl) rfl)
    (bwd_stops Fence.wide (9 - 1) trivial rfl (by omega) bs gt S.L.length zs (by omega) (by omega) w3 HSZ.out.2.2.2.2 (by have := HSZ.out; omega) hbs hgt) KeepB.trans (fun W l o o' h1 h2 h3 h4 => KeepB.put HSZ.out.2.2.2.2 (by have := HSZ.out; omega) W l o o' h1 h2 h3 h4) (Below.refl _ _) (fun _ => rfl)
    (fun pre W => ∃ M' n', DrS w3 W b bd bm n' t S M' ∧ n' ≤ 90000 + pre.length * 90000 ∧ (pre = bw zs pre.length → Good S t (zs.length - pre.length) M'))
    (fun c pre W => c = .ret ∧ ∃ M' n', DrS w3 W b bd bm n' t S M' ∧ cntM S t M' = 1 ∧ (pre = bw zs pre.length → Good S t (zs.length - (pre.length - 1)) M'))
    (fun pre A B row hs hg hr => by
      obtain ⟨M', n', hS, h1, h2⟩ := hs
      have hne : ∀ k, k < w3.heap.size → some k ≠ row := fun k hk e => by have := (hr k e.symm).1; omega
      exact ⟨M', n', ⟨hS.blk.same (hg.block bd hS.blk.lt (hne bd (by have := HSZ.out; omega))), hS.mp.same (hg.block bm hS.mp.lt (hne bm (by have := HSZ.out; omega))), hS.nd, hS.fl, hS.kf.grown hg (fun j e => .inr (hr j e).1)⟩, h1, h2⟩)
    (fun c pre A B row hs hg hr => by
      obtain ⟨hc, M', n', hS, h1, h2⟩ := hs
      have hne : ∀ k, k < w3.heap.size → some k ≠ row := fun k hk e => by have := (hr k e.symm).1; omega
      exact ⟨hc, M', n', ⟨hS.blk.same (hg.block bd hS.blk.lt (hne bd (by have := HSZ.out; omega))), hS.mp.same (hg.block bm hS.mp.lt (hne bm (by have := HSZ.out; omega))), hS.nd, hS.fl, hS.kf.grown hg (fun j e => .inr (hr j e).1)⟩, h1, h2⟩)
    ⟨M, n, HD3.out, by omega, fun _ => by rw [List.length_nil, Nat.sub_zero, hzl]; exact HG.out⟩
    (fun x => { tmps := #[.pointer (some ⟨bd, 0, none⟩), .pointer (some ⟨bx, 0, none⟩), undef, .int .i32 (zs[x]?.getD 0), undef, undef, undef, .pointer (some ⟨bd, 0, none⟩), .pointer (some ⟨bd, 0, none⟩), .pointer (some ⟨bd, 0, none⟩), .pointer (some ⟨b, 0, none⟩), .slice (some ⟨gt, 0, none⟩) S.L.length S.L.length, .func (.func 101) #[] #[.pointer (some ⟨bs, 0, none⟩)], .int .i64 (x : Int), .int .i32 (zs[x]?.getD 0), undef, undef, undef, undef, undef, undef, undef, undef, undef, undef, undef, undef, undef, undef, undef, undef, undef, undef, undef, undef, undef, undef, undef, undef, undef, undef, undef, undef, undef, undef, undef, undef, undef, undef, undef, undef, undef, undef, undef], defers := [] }) ?assign ?body ?done ?stop
  case assign =>
    intro l x W K hK
    unfold bwE
    gi_wp2
    exact hK
  case body =>
    rintro l pre x W ⟨M', n', hS, hn', hgd⟩ hpl
    have hbx3 : W.cell? ⟨bx, 0, none⟩ = some (.pointer (some ⟨bd, 0, none⟩)) := by
      rw [World.cell?_of_block (a := ⟨bx, 0, none⟩) (hS.kf.block bx (by have := HSZ.out; omega) (by have := HSZ.out; omega))]; exact HBX.out
    have hnB : ∀ W' : World, Kf (fun k => k = bd ∨ k = bm) W W' → KeepsFrom w3.heap.size W W' ∧ KeepB bs gt W W' := fun W' hk => by
      have hsz := HSZ.out
      have hw := hS.kf.size
      exact ⟨⟨hk.size, fun k o hB ho _ => (hk.block k (by
        rcases Nat.lt_or_ge k W.heap.size with e | e
        · exact e
        · rw [Array.getElem?_eq_none e] at ho; cases ho) (by omega)).trans ho⟩, hk.block bs (by omega) (by omega), hk.block gt (by omega) (by omega)⟩
    have HNB := Lib.hid hnB
    have hnoB : ∀ k, q.own k ≠ .no → ¬ (k = bd ∨ k = bm) := fun k hk e => by rcases e with e | e <;> subst e <;> first | exact hk HO.out.1 | exact hk HO.out.2
    have HEW : Hid (E6 W b q S d) := HE3.out.kept hS.kf hnoB
    have c3 := hS.blk.c3
    have hlen1 : cntM S t M' ≤ 90000 := by
      have h1 := cntM_le (S := S) t M'
      have h2 := mlen HI.out hS.nd hS.fl
      omega
    have hl32 : -2147483648 ≤ zs[x]?.getD 0 ∧ zs[x]?.getD 0 ≤ 2147483647 := by
      rw [HZ.out, List.getElem?_map]
      cases hx : S.L[x]? with
      | none => simp
      | some y => have := (one_iff _).1 (HI.out.pre.one y (List.mem_of_getElem? hx)).1; simp; omega
    have hcase : (zs[x]?.getD 0 = 0) ∨ ∃ y, S.L[x]? = some y ∧ zs[x]?.getD 0 = y.l := by
      rw [HZ.out, List.getElem?_map]
      cases hx : S.L[x]? with
      | none => exact .inl rfl
      | some y => exact .inr ⟨y, rfl, rfl⟩
    have HPRE : Hid (pre ++ [x] = bw zs (pre ++ [x]).length → pre = bw zs pre.length ∧ x = zs.length - 1 - pre.length) := fun e => by
      rw [List.length_append, show [x].length = 1 from rfl, bw_succ] at e
      have := List.append_inj e (by rw [bw_length])
      exact ⟨this.1, by simpa using this.2⟩
    have HGD := Lib.hid hgd
    have HLN : Hid ((pre ++ [x]).length = pre.length + 1) := by unfold Hid; simp
    by_cases hone : cntM S t M' = 1
    · rw [hone] at c3
      have HFIN : Hid (ownPostG w3.heap.size (KeepB bs gt) (fun pre W => ∃ M' n', DrS w3 W b bd bm n' t S M' ∧ n' ≤ 90000 + pre.length * 90000 ∧ (pre = bw zs pre.length → Good S t (zs.length - pre.length) M')) (fun c pre W => c = .ret ∧ ∃ M' n', DrS w3 W b bd bm n' t S M' ∧ cntM S t M' = 1 ∧ (pre = bw zs pre.length → Good S t (zs.length - (pre.length - 1)) M')) (pre ++ [x]) W .ret { tmps := #[], defers := [] } W) := by
        refine ⟨(HNB.out _ (Kf.refl _ _)).1, rfl, M', n', hS, hone, fun e => ?_⟩
        rw [HLN.out, Nat.add_sub_cancel]
        exact HGD.out (HPRE.out e).1
      clear hS hgd hnB hnoB
      gi_wp2
      exact HFIN.out
    · have tone : ((cntM S t M' : Nat) : Int) ≠ 1 := by omega
      have tone2 : (((cntM S t M' : Nat) : Int) == 1) = false := by simpa using tone
      have HNot : Hid (∀ V : World, Calls Try.prog 79 #[.int .i32 (zs[x]?.getD 0)] V fun e w' => e = .returned (.int .i32 (notZ (zs[x]?.getD 0))) ∧ V = w') := fun V => not_any _ V hl32.1 hl32.2
      obtain ⟨wrong, hwr⟩ : ∃ wrong, wrong = notZ (zs[x]?.getD 0) := ⟨_, rfl⟩
      have hw32 : -2147483648 ≤ wrong ∧ wrong ≤ 2147483647 := by
        rw [hwr]; unfold notZ; split
        · rename_i ho; have := (one_iff _).1 ho; omega
        · omega
      rw [← hwr] at HNot
      have hone' : ∀ y ∈ M', LitM.one y = true := fun y hy => (false_at HI.out (hS.fl y hy)).1
      have c1 := hS.blk.c1
      have c2 := hS.blk.c2
      have hwcase : wrong ∈ M' → ∃ y, S.L[x]? = some y ∧ zs[x]?.getD 0 = y.l ∧ wrong = -y.l := fun hin => by
        have ho := hone' wrong hin
        rcases hcase with e | ⟨y, hy, e⟩
        · rw [hwr, e] at ho; cases ho
        · exact ⟨y, hy, e, by rw [hwr, e, not_one (HI.out.pre.one y (List.mem_of_getElem? hy)).1]⟩
      obtain ⟨D, hown, hkeys⟩ := hS.mp
      have hwf := wf32 hw32.1 hw32.2
      have hlook0 : ∃ z, (Instr.lookup 122 (.map (some bm)) (.int .i32 wrong) false).run Try.prog W.drew = .ok (.int .i64 z) W.drew ∧ (wrong ∈ M' → z = lvl S wrong) ∧ (wrong ∉ M' → z = 0) := by
        obtain ⟨z, h1, h2, _⟩ := hown.drew.lookup_int kd Try.underlying122 Try.underlying3 (zero_int W.drew) (key32 hwf)
        refine ⟨z, h1, fun hin => ?_, fun hin => ?_⟩
        · rw [(hkeys.at_ wrong hin).2] at h2
          injection h2 with h2; injection h2 with h2 h3; exact h3.symm
        · have hh := hkeys.has wrong hwf
          rw [decide_eq_false hin] at hh
          rw [Maps.atKey_of_not_has hh] at h2
          injection h2 with h2; injection h2 with h2 h3; exact h3.symm
      obtain ⟨z, hlook, hz1, hz2⟩ := hlook0
      by_cases hcond : wrong ∈ M' ∧ lvl S wrong = (t : Int)
      · obtain ⟨hin, hlv⟩ := hcond
        obtain ⟨y, hy, hly, hwy⟩ := hwcase hin
        have hzt : z = (t : Int) := (hz1 hin).trans hlv
        subst hzt
        have tz : (((t : Nat) : Int) != ((t : Nat) : Int)) = false := by simp
        obtain ⟨M2, hM2⟩ : ∃ M2, M2 = M'.filter fun y => decide (y ≠ wrong) := ⟨_, rfl⟩
        have hcd := cntM_del hS.nd hin hlv
        rw [← hM2] at hcd
        have hpos : 1 ≤ cntM S t M' := by
          unfold cntM
          exact List.length_pos_of_mem (List.mem_filter.2 ⟨hin, by simpa using hlv⟩)
        have hne := hS.blk.ne hS.mp
        have HDEL : Hid (∀ w4 : World, w4.ownsMap Try.prog 43 (plainElem Try.prog 3) bm n' (D.del (.int .i32 wrong)) → W.drew.mapTurned w4 bm → MapZ w4 S bm n' M2 ∧ DrB w4 b bd bm t (cntM S t M' : Nat) ∧ Kf (fun k => k = bd ∨ k = bm) W w4) := fun w4 x1 x2 =>
          ⟨⟨_, x1, by rw [hM2]; exact hkeys.del⟩, hS.blk.same (x2.grown.block bd hS.blk.lt (fun e => hne (by injection e))), (Kf.refl _ W).drew.grown x2.grown (fun j e => .inl (.inr (by injection e with e; exact e.symm)))⟩
        have HR := Lib.hid (reaL_ok HI.out (varZ (zs[x]?.getD 0)))
        have HM2 : Hid (M2.Nodup ∧ (∀ y ∈ M2, valZ S.L y = -1) ∧ M2.length ≤ 90000) := by
          have h1 : M2.Nodup := by rw [hM2]; exact hS.nd.sublist List.filter_sublist
          have h2 : ∀ y ∈ M2, valZ S.L y = -1 := fun y hy => hS.fl y (by rw [hM2] at hy; exact (List.mem_filter.1 hy).1)
          exact ⟨h1, h2, by have := mlen HI.out h1 h2; omega⟩
        have HGN : Hid (pre ++ [x] = bw zs (pre ++ [x]).length → Good S t (zs.length - (pre ++ [x]).length) (addM S M2 (reaL S (varZ (zs[x]?.getD 0))))) := fun e => by
          obtain ⟨e1, e2⟩ := HPRE.out e
          have hg := HGD.out e1
          rw [HLN.out]
          rw [show zs.length - pre.length = (zs.length - (pre.length + 1)) + 1 from by omega] at hg
          have hk : zs.length - (pre.length + 1) = x := by omega
          rw [hk] at hg ⊢
          rw [hM2, hly, hwy]
          rw [hwy] at hin hlv
          exact good_step HI.out HDI.out hg hy hin hlv hone
        have HKFW := Lib.hid hS.kf
        have HCD : Hid (((cntM S t M2 : Nat) : Int) = ((cntM S t M' : Nat) : Int) - 1) := by unfold Hid; omega
        have HB1 : Hid (w3.heap.size ≤ W.heap.size ∧ bd < w3.heap.size ∧ bm < w3.heap.size) := ⟨hS.kf.size, by have := HSZ.out; omega, by have := HSZ.out; omega⟩
        have hplen : pre.length ≤ 90000 := by omega
        clear hS hgd hnB hwr hcase hwcase hz1 hz2 hone' HPRE HGD hkeys hin hlv hy hly hwy hM2 hcd hone
        generalize zs[x]?.getD 0 = lx at *
        generalize cntM S t M' = cnt at *
        gi_wp2
        refine ⟨trivial, CallsIn.inRound l ((callsIn_wide.2 (HNot.out W)).mono ?_)⟩
        rintro e w' ⟨rfl, rfl⟩
        gi_upto_region 5 with (fail)
        refine wpIn_region_any (by kernel_rfl) (any_in l 7 (no_defer (by kernel_rfl)) (by rintro ⟨_, _, h⟩; exact h) _ _ _ _ ?_)
        change wpAny _ _ _ _ _ _ _ (World.drew _)
        refine wpAny_take (i := 4) (v := ?_) rfl (by kernel_rfl) (by kernel_rfl) (by kernel_rfl) (fun _ _ _ h => h) (Or.inl ⟨by kernel_rfl, ?_⟩) ?_
        rotate_left 1
        · (intro w; go_simp <;> with_reducible rfl)
        go_simp
        refine wpAny_ready (rs := [0, 6]) (by kernel_rfl) (by simp) ?_
        refine AllReady.cons rfl (fun K hK => ?_) ?_
        ·
          go_simp
          refine hK _ _ ?_; clear hK K
          refine wpAny_take (i := 1) (v := ?_) rfl (by kernel_rfl) (by kernel_rfl) (by kernel_rfl) (fun _ _ _ h => h) (Or.inl ⟨by kernel_rfl, ?_⟩) ?_
          rotate_left 1
          · (intro w; go_simp <;> with_reducible rfl)
          go_simp
          refine wpAny_take (i := 2) (v := ?_) rfl (by kernel_rfl) (by kernel_rfl) (by kernel_rfl) (fun _ _ _ h => h) (Or.inl ⟨by kernel_rfl, ?_⟩) ?_
          rotate_left 1
          · (intro w; go_simp <;> with_reducible rfl)
          go_simp
          refine wpAny_ready (rs := [3, 6]) (by kernel_rfl) (by simp) ?_
          refine AllReady.cons rfl (fun K hK => ?_) ?_
          ·
            go_simp
            refine hK _ _ ?_; clear hK K
            refine wpAny_ready (rs := [5, 6]) (by kernel_rfl) (by simp) ?_
            refine AllReady.cons rfl (fun K hK => ?_) ?_
            ·
              go_simp
              refine hK _ _ ?_; clear hK K
              refine wpAny_ready (rs := [6]) (by kernel_rfl) (by simp) ?_
              refine AllReady.cons rfl (fun K hK => ?_) ?_
              ·
                go_simp
                refine hK _ _ ?_; clear hK K
                refine wpAny_take (i := 7) (v := ?_) rfl (by kernel_rfl) (by kernel_rfl) (by kernel_rfl) (fun _ _ _ h => h) (Or.inl ⟨by kernel_rfl, ?_⟩) ?_
                rotate_left 1
                · (intro w; go_simp <;> with_reducible rfl)
                go_simp
                refine wpAny_take (i := 8) (v := ?_) rfl (by kernel_rfl) (by kernel_rfl) (by kernel_rfl) (fun _ _ _ h => h) (Or.inl ⟨by kernel_rfl, ?_⟩) ?_
                rotate_left 1
                · (intro w; go_simp <;> with_reducible rfl)
                go_simp
                refine wpAny_ready (rs := [9]) (by kernel_rfl) (by simp) ?_
                refine AllReady.cons rfl (fun K hK => ?_) ?_
                ·
                  go_simp
                  refine hK _ _ ?_; clear hK K
                  refine wpAny_take (i := 10) (v := ?_) rfl (by kernel_rfl) (by kernel_rfl) (by kernel_rfl) (fun _ _ _ h => h) (Or.inl ⟨by kernel_rfl, ?_⟩) ?_
                  rotate_left 1
                  · (intro w; go_simp <;> with_reducible rfl)
                  go_simp
                  refine wpAny_done (by kernel_rfl) ?_ _
                  gi_wp2_with (gi_at_delete; refine wpListIn_delete_own _ rfl _ _ 122 43 rfl 3 kd Try.underlying122 _ bm n' D rfl hown.drew _ _ rfl (key32 hwf) ?_)
                  intro w4 hown4 hturn4
                  obtain ⟨n1, n2, n3⟩ := HDEL.out w4 hown4 hturn4
                  have k3 := n2.c3
                  have k3f := n2.free 3
                  have hbx4 : w4.cell? ⟨bx, 0, none⟩ = some (.pointer (some ⟨bd, 0, none⟩)) := by
                    rw [World.cell?_of_block (a := ⟨bx, 0, none⟩) (n3.block bx (by have := HSZ.out; have := HB1.out; omega) (by have := HSZ.out; omega))]; exact hbx3
                  have hne4 := n2.ne n1
                  have HM5 : Hid (MapZ (w4.setCell ⟨bd, 3, none⟩ (.int .i64 ((cnt : Int) - 1))) S bm n' M2) := n1.same (Below.heap_setCell _ _ _ _ (fun e => hne4 e.symm))
                  have HD5 : Hid (DrB (w4.setCell ⟨bd, 3, none⟩ (.int .i64 ((cnt : Int) - 1))) b bd bm t (cntM S t M2 : Nat)) := by
                    unfold Hid; rw [HCD.out]; exact n2.setLeft _
                  have HK5 : Hid (Kf (fun k => k = bd ∨ k = bm) W (w4.setCell ⟨bd, 3, none⟩ (.int .i64 ((cnt : Int) - 1)))) := n3.set (.inl (.inl rfl)) _
                  have hbx5 : (w4.setCell ⟨bd, 3, none⟩ (.int .i64 ((cnt : Int) - 1))).cell? ⟨bx, 0, none⟩ = some (.pointer (some ⟨bd, 0, none⟩)) := by
                    rw [World.cell?_setCell_other _ _ _ _ (by intro e; injection e with e; have := HSZ.out; omega)]; exact hbx4
                  have HE5 : Hid (E6 (w4.setCell ⟨bd, 3, none⟩ (.int .i64 ((cnt : Int) - 1))) b q S d) := HEW.out.kept HK5.out hnoB
                  have HRE : Hid (Calls Try.prog 87 #[.pointer (some ⟨bd, 0, none⟩), .int .i32 lx] (w4.setCell ⟨bd, 3, none⟩ (.int .i64 ((cnt : Int) - 1))) (ReaTo S (varZ lx) (w4.setCell ⟨bd, 3, none⟩ (.int .i64 ((cnt : Int) - 1))))) := dreason_any HE5.out HI.out HD5.out.c0 HD5.out.lt lx hl32.1 hl32.2
                  clear hown4 hturn4 n1 n2 n3 hne4 hown hlook HDEL hnoB c1 c2 c3
                  gi_wp2
                  refine ⟨trivial, CallsIn.inRound l ((callsIn_wide.2 HRE.out).mono ?_)⟩
                  rintro e w6 ⟨A6, c6, rfl, hsl6, hon6, hb6⟩
                  generalize w4.setCell ⟨bd, 3, none⟩ (.int .i64 ((cnt : Int) - 1)) = w5 at *
                  have hbx6 : w6.cell? ⟨bx, 0, none⟩ = some (.pointer (some ⟨bd, 0, none⟩)) := by
                    rw [hb6.cell (p := ⟨bx, 0, none⟩) (by have := HSZ.out; have := HB1.out; have := HK5.out.size; show bx < _; omega)]; exact hbx5
                  have HAD : Hid (Calls Try.prog 85 #[.pointer (some ⟨bd, 0, none⟩), .slice A6 (reaL S (varZ lx)).length c6] w6 (DAdd w6 b bd bm n' S t M2 (reaL S (varZ lx)))) := by
                    refine dadd_any (HE5.out.below hb6) hn9 HO.out.1 HO.out.2 (HD5.out.same (hb6.block bd HD5.out.lt)) (HM5.out.same (hb6.block bm HM5.out.lt)) hsl6 rfl (In32.of fun y hy => by have := (one_iff y).1 (HR.out.1 y hy).1; omega) (fun j hj => ?_) (by have := HR.out.2; omega) (by omega) (by have := HM2.out.2.2; omega)
                    have h1 := hon6 j hj
                    have h2 := HD5.out.lt
                    have h3 := HM5.out.lt
                    omega
                  have HK6 : Hid (Kf (fun k => k = bd ∨ k = bm) W w6) := HK5.out.trans (Kf.of_below hb6) (fun x hx => .inl hx)
                  clear hsl6 hon6 hb6 hbx5 HRE HE5 HD5 HM5 HK5
                  gi_wp2
                  refine ⟨trivial, CallsIn.inRound l ((callsIn_wide.2 HAD.out).mono ?_)⟩
                  rintro e w7 ⟨rfl, hD7, hM7, hK7⟩
                  have HK7 : Hid (Kf (fun k => k = bd ∨ k = bm) W w7) := HK6.out.trans hK7 (fun x hx => .inl hx)
                  have HFIN : Hid (ownPostG w3.heap.size (KeepB bs gt) (fun pre W => ∃ M' n', DrS w3 W b bd bm n' t S M' ∧ n' ≤ 90000 + pre.length * 90000 ∧ (pre = bw zs pre.length → Good S t (zs.length - pre.length) M')) (fun c pre W => c = .ret ∧ ∃ M' n', DrS w3 W b bd bm n' t S M' ∧ cntM S t M' = 1 ∧ (pre = bw zs pre.length → Good S t (zs.length - (pre.length - 1)) M')) (pre ++ [x]) W .normal { tmps := #[], defers := [] } w7) := by
                    refine ⟨(HNB.out _ HK7.out).1, (HNB.out _ HK7.out).2, _, _, ⟨hD7, hM7, addM_nodup HM2.out.1, fun y hy => ?_, HKFW.out.trans HK7.out (fun x hx => .inl hx)⟩, ?_, HGN.out⟩
                    · rcases addM_mem.1 hy with e | ⟨_, _, e⟩
                      · exact HM2.out.2.1 y e
                      · exact e
                    · have := HR.out.2
                      rw [HLN.out, Nat.succ_mul]; omega
                  clear hD7 hM7 hK7
                  gi_wp2
                  exact HFIN.out
                exact AllReady.nil
              exact AllReady.nil
            refine AllReady.cons rfl (fun K hK => ?_) ?_
            ·
              go_simp
              refine hK _ _ ?_; clear hK K
              refine wpAny_take (i := 7) (v := ?_) rfl (by kernel_rfl) (by kernel_rfl) (by kernel_rfl) (fun _ _ _ h => h) (Or.inl ⟨by kernel_rfl, ?_⟩) ?_
              rotate_left 1
              · (intro w; go_simp <;> with_reducible rfl)
              go_simp
              refine wpAny_take (i := 8) (v := ?_) rfl (by kernel_rfl) (by kernel_rfl) (by kernel_rfl) (fun _ _ _ h => h) (Or.inl ⟨by kernel_rfl, ?_⟩) ?_
              rotate_left 1
              · (intro w; go_simp <;> with_reducible rfl)
              go_simp
              refine wpAny_ready (rs := [5, 9]) (by kernel_rfl) (by simp) ?_
              refine AllReady.cons rfl (fun K hK => ?_) ?_
              ·
                go_simp
                refine hK _ _ ?_; clear hK K
                refine wpAny_ready (rs := [9]) (by kernel_rfl) (by simp) ?_
                refine AllReady.cons rfl (fun K hK => ?_) ?_
                ·
                  go_simp
                  refine hK _ _ ?_; clear hK K
                  refine wpAny_take (i := 10) (v := ?_) rfl (by kernel_rfl) (by kernel_rfl) (by kernel_rfl) (fun _ _ _ h => h) (Or.inl ⟨by kernel_rfl, ?_⟩) ?_
                  rotate_left 1
                  · (intro w; go_simp <;> with_reducible rfl)
                  go_simp
                  refine wpAny_done (by kernel_rfl) ?_ _
                  gi_wp2_with (gi_at_delete; refine wpListIn_delete_own _ rfl _ _ 122 43 rfl 3 kd Try.underlying122 _ bm n' D rfl hown.drew _ _ rfl (key32 hwf) ?_)
                  intro w4 hown4 hturn4
                  obtain ⟨n1, n2, n3⟩ := HDEL.out w4 hown4 hturn4
                  have k3 := n2.c3
                  have k3f := n2.free 3
                  have hbx4 : w4.cell? ⟨bx, 0, none⟩ = some (.pointer (some ⟨bd, 0, none⟩)) := by
                    rw [World.cell?_of_block (a := ⟨bx, 0, none⟩) (n3.block bx (by have := HSZ.out; have := HB1.out; omega) (by have := HSZ.out; omega))]; exact hbx3
                  have hne4 := n2.ne n1
                  have HM5 : Hid (MapZ (w4.setCell ⟨bd, 3, none⟩ (.int .i64 ((cnt : Int) - 1))) S bm n' M2) := n1.same (Below.heap_setCell _ _ _ _ (fun e => hne4 e.symm))
                  have HD5 : Hid (DrB (w4.setCell ⟨bd, 3, none⟩ (.int .i64 ((cnt : Int) - 1))) b bd bm t (cntM S t M2 : Nat)) := by
                    unfold Hid; rw [HCD.out]; exact n2.setLeft _
                  have HK5 : Hid (Kf (fun k => k = bd ∨ k = bm) W (w4.setCell ⟨bd, 3, none⟩ (.int .i64 ((cnt : Int) - 1)))) := n3.set (.inl (.inl rfl)) _
                  have hbx5 : (w4.setCell ⟨bd, 3, none⟩ (.int .i64 ((cnt : Int) - 1))).cell? ⟨bx, 0, none⟩ = some (.pointer (some ⟨bd, 0, none⟩)) := by
                    rw [World.cell?_setCell_other _ _ _ _ (by intro e; injection e with e; have := HSZ.out; omega)]; exact hbx4
                  have HE5 : Hid (E6 (w4.setCell ⟨bd, 3, none⟩ (.int .i64 ((cnt : Int) - 1))) b q S d) := HEW.out.kept HK5.out hnoB
                  have HRE : Hid (Calls Try.prog 87 #[.pointer (some ⟨bd, 0, none⟩), .int .i32 lx] (w4.setCell ⟨bd, 3, none⟩ (.int .i64 ((cnt : Int) - 1))) (ReaTo S (varZ lx) (w4.setCell ⟨bd, 3, none⟩ (.int .i64 ((cnt : Int) - 1))))) := dreason_any HE5.out HI.out HD5.out.c0 HD5.out.lt lx hl32.1 hl32.2
                  clear hown4 hturn4 n1 n2 n3 hne4 hown hlook HDEL hnoB c1 c2 c3
                  gi_wp2
                  refine ⟨trivial, CallsIn.inRound l ((callsIn_wide.2 HRE.out).mono ?_)⟩
                  rintro e w6 ⟨A6, c6, rfl, hsl6, hon6, hb6⟩
                  generalize w4.setCell ⟨bd, 3, none⟩ (.int .i64 ((cnt : Int) - 1)) = w5 at *
                  have hbx6 : w6.cell? ⟨bx, 0, none⟩ = some (.pointer (some ⟨bd, 0, none⟩)) := by
                    rw [hb6.cell (p := ⟨bx, 0, none⟩) (by have := HSZ.out; have := HB1.out; have := HK5.out.size; show bx < _; omega)]; exact hbx5
                  have HAD : Hid (Calls Try.prog 85 #[.pointer (some ⟨bd, 0, none⟩), .slice A6 (reaL S (varZ lx)).length c6] w6 (DAdd w6 b bd bm n' S t M2 (reaL S (varZ lx)))) := by
                    refine dadd_any (HE5.out.below hb6) hn9 HO.out.1 HO.out.2 (HD5.out.same (hb6.block bd HD5.out.lt)) (HM5.out.same (hb6.block bm HM5.out.lt)) hsl6 rfl (In32.of fun y hy => by have := (one_iff y).1 (HR.out.1 y hy).1; omega) (fun j hj => ?_) (by have := HR.out.2; omega) (by omega) (by have := HM2.out.2.2; omega)
                    have h1 := hon6 j hj
                    have h2 := HD5.out.lt
                    have h3 := HM5.out.lt
                    omega
                  have HK6 : Hid (Kf (fun k => k = bd ∨ k = bm) W w6) := HK5.out.trans (Kf.of_below hb6) (fun x hx => .inl hx)
                  clear hsl6 hon6 hb6 hbx5 HRE HE5 HD5 HM5 HK5
                  gi_wp2
                  refine ⟨trivial, CallsIn.inRound l ((callsIn_wide.2 HAD.out).mono ?_)⟩
                  rintro e w7 ⟨rfl, hD7, hM7, hK7⟩
                  have HK7 : Hid (Kf (fun k => k = bd ∨ k = bm) W w7) := HK6.out.trans hK7 (fun x hx => .inl hx)
                  have HFIN : Hid (ownPostG w3.heap.size (KeepB bs gt) (fun pre W => ∃ M' n', DrS w3 W b bd bm n' t S M' ∧ n' ≤ 90000 + pre.length * 90000 ∧ (pre = bw zs pre.length → Good S t (zs.length - pre.length) M')) (fun c pre W => c = .ret ∧ ∃ M' n', DrS w3 W b bd bm n' t S M' ∧ cntM S t M' = 1 ∧ (pre = bw zs pre.length → Good S t (zs.length - (pre.length - 1)) M')) (pre ++ [x]) W .normal { tmps := #[], defers := [] } w7) := by
                    refine ⟨(HNB.out _ HK7.out).1, (HNB.out _ HK7.out).2, _, _, ⟨hD7, hM7, addM_nodup HM2.out.1, fun y hy => ?_, HKFW.out.trans HK7.out (fun x hx => .inl hx)⟩, ?_, HGN.out⟩
                    · rcases addM_mem.1 hy with e | ⟨_, _, e⟩
                      · exact HM2.out.2.1 y e
                      · exact e
                    · have := HR.out.2
                      rw [HLN.out, Nat.succ_mul]; omega
                  clear hD7 hM7 hK7
                  gi_wp2
                  exact HFIN.out
                exact AllReady.nil
              refine AllReady.cons rfl (fun K hK => ?_) ?_
              ·
                go_simp
                refine hK _ _ ?_; clear hK K
                refine wpAny_ready (rs := [5]) (by kernel_rfl) (by simp) ?_
                refine AllReady.cons rfl (fun K hK => ?_) ?_
                ·
                  go_simp
                  refine hK _ _ ?_; clear hK K
                  refine wpAny_take (i := 10) (v := ?_) rfl (by kernel_rfl) (by kernel_rfl) (by kernel_rfl) (fun _ _ _ h => h) (Or.inl ⟨by kernel_rfl, ?_⟩) ?_
                  rotate_left 1
                  · (intro w; go_simp <;> with_reducible rfl)
                  go_simp
                  refine wpAny_done (by kernel_rfl) ?_ _
                  gi_wp2_with (gi_at_delete; refine wpListIn_delete_own _ rfl _ _ 122 43 rfl 3 kd Try.underlying122 _ bm n' D rfl hown.drew _ _ rfl (key32 hwf) ?_)
                  intro w4 hown4 hturn4
                  obtain ⟨n1, n2, n3⟩ := HDEL.out w4 hown4 hturn4
                  have k3 := n2.c3
                  have k3f := n2.free 3
                  have hbx4 : w4.cell? ⟨bx, 0, none⟩ = some (.pointer (some ⟨bd, 0, none⟩)) := by
                    rw [World.cell?_of_block (a := ⟨bx, 0, none⟩) (n3.block bx (by have := HSZ.out; have := HB1.out; omega) (by have := HSZ.out; omega))]; exact hbx3
                  have hne4 := n2.ne n1
                  have HM5 : Hid (MapZ (w4.setCell ⟨bd, 3, none⟩ (.int .i64 ((cnt : Int) - 1))) S bm n' M2) := n1.same (Below.heap_setCell _ _ _ _ (fun e => hne4 e.symm))
                  have HD5 : Hid (DrB (w4.setCell ⟨bd, 3, none⟩ (.int .i64 ((cnt : Int) - 1))) b bd bm t (cntM S t M2 : Nat)) := by
                    unfold Hid; rw [HCD.out]; exact n2.setLeft _
                  have HK5 : Hid (Kf (fun k => k = bd ∨ k = bm) W (w4.setCell ⟨bd, 3, none⟩ (.int .i64 ((cnt : Int) - 1)))) := n3.set (.inl (.inl rfl)) _
                  have hbx5 : (w4.setCell ⟨bd, 3, none⟩ (.int .i64 ((cnt : Int) - 1))).cell? ⟨bx, 0, none⟩ = some (.pointer (some ⟨bd, 0, none⟩)) := by
                    rw [World.cell?_setCell_other _ _ _ _ (by intro e; injection e with e; have := HSZ.out; omega)]; exact hbx4
                  have HE5 : Hid (E6 (w4.setCell ⟨bd, 3, none⟩ (.int .i64 ((cnt : Int) - 1))) b q S d) := HEW.out.kept HK5.out hnoB
                  have HRE : Hid (Calls Try.prog 87 #[.pointer (some ⟨bd, 0, none⟩), .int .i32 lx] (w4.setCell ⟨bd, 3, none⟩ (.int .i64 ((cnt : Int) - 1))) (ReaTo S (varZ lx) (w4.setCell ⟨bd, 3, none⟩ (.int .i64 ((cnt : Int) - 1))))) := dreason_any HE5.out HI.out HD5.out.c0 HD5.out.lt lx hl32.1 hl32.2
                  clear hown4 hturn4 n1 n2 n3 hne4 hown hlook HDEL hnoB c1 c2 c3
                  gi_wp2
                  refine ⟨trivial, CallsIn.inRound l ((callsIn_wide.2 HRE.out).mono ?_)⟩
                  rintro e w6 ⟨A6, c6, rfl, hsl6, hon6, hb6⟩
                  generalize w4.setCell ⟨bd, 3, none⟩ (.int .i64 ((cnt : Int) - 1)) = w5 at *
                  have hbx6 : w6.cell? ⟨bx, 0, none⟩ = some (.pointer (some ⟨bd, 0, none⟩)) := by
                    rw [hb6.cell (p := ⟨bx, 0, none⟩) (by have := HSZ.out; have := HB1.out; have := HK5.out.size; show bx < _; omega)]; exact hbx5
                  have HAD : Hid (Calls Try.prog 85 #[.pointer (some ⟨bd, 0, none⟩), .slice A6 (reaL S (varZ lx)).length c6] w6 (DAdd w6 b bd bm n' S t M2 (reaL S (varZ lx)))) := by
                    refine dadd_any (HE5.out.below hb6) hn9 HO.out.1 HO.out.2 (HD5.out.same (hb6.block bd HD5.out.lt)) (HM5.out.same (hb6.block bm HM5.out.lt)) hsl6 rfl (In32.of fun y hy => by have := (one_iff y).1 (HR.out.1 y hy).1; omega) (fun j hj => ?_) (by have := HR.out.2; omega) (by omega) (by have := HM2.out.2.2; omega)
                    have h1 := hon6 j hj
                    have h2 := HD5.out.lt
                    have h3 := HM5.out.lt
                    omega
                  have HK6 : Hid (Kf (fun k => k = bd ∨ k = bm) W w6) := HK5.out.trans (Kf.of_below hb6) (fun x hx => .inl hx)
                  clear hsl6 hon6 hb6 hbx5 HRE HE5 HD5 HM5 HK5
                  gi_wp2
                  refine ⟨trivial, CallsIn.inRound l ((callsIn_wide.2 HAD.out).mono ?_)⟩
                  rintro e w7 ⟨rfl, hD7, hM7, hK7⟩
                  have HK7 : Hid (Kf (fun k => k = bd ∨ k = bm) W w7) := HK6.out.trans hK7 (fun x hx => .inl hx)
                  have HFIN : Hid (ownPostG w3.heap.size (KeepB bs gt) (fun pre W => ∃ M' n', DrS w3 W b bd bm n' t S M' ∧ n' ≤ 90000 + pre.length * 90000 ∧ (pre = bw zs pre.length → Good S t (zs.length - pre.length) M')) (fun c pre W => c = .ret ∧ ∃ M' n', DrS w3 W b bd bm n' t S M' ∧ cntM S t M' = 1 ∧ (pre = bw zs pre.length → Good S t (zs.length - (pre.length - 1)) M')) (pre ++ [x]) W .normal { tmps := #[], defers := [] } w7) := by
                    refine ⟨(HNB.out _ HK7.out).1, (HNB.out _ HK7.out).2, _, _, ⟨hD7, hM7, addM_nodup HM2.out.1, fun y hy => ?_, HKFW.out.trans HK7.out (fun x hx => .inl hx)⟩, ?_, HGN.out⟩
                    · rcases addM_mem.1 hy with e | ⟨_, _, e⟩
                      · exact HM2.out.2.1 y e
                      · exact e
                    · have := HR.out.2
                      rw [HLN.out, Nat.succ_mul]; omega
                  clear hD7 hM7 hK7
                  gi_wp2
                  exact HFIN.out
                exact AllReady.nil
              exact AllReady.nil
            exact AllReady.nil
          refine AllReady.cons rfl (fun K hK => ?_) ?_
          ·
            go_simp
            refine hK _ _ ?_; clear hK K
            refine wpAny_take (i := 7) (v := ?_) rfl (by kernel_rfl) (by kernel_rfl) (by kernel_rfl) (fun _ _ _ h => h) (Or.inl ⟨by kernel_rfl, ?_⟩) ?_
            rotate_left 1
            · (intro w; go_simp <;> with_reducible rfl)
            go_simp
            refine wpAny_take (i := 8) (v := ?_) rfl (by kernel_rfl) (by kernel_rfl) (by kernel_rfl) (fun _ _ _ h => h) (Or.inl ⟨by kernel_rfl, ?_⟩) ?_
            rotate_left 1
            · (intro w; go_simp <;> with_reducible rfl)
            go_simp
            refine wpAny_ready (rs := [3, 9]) (by kernel_rfl) (by simp) ?_
            refine AllReady.cons rfl (fun K hK => ?_) ?_
            ·
              go_simp
              refine hK _ _ ?_; clear hK K
              refine wpAny_ready (rs := [5, 9]) (by kernel_rfl) (by simp) ?_
              refine AllReady.cons rfl (fun K hK => ?_) ?_
              ·
                go_simp
                refine hK _ _ ?_; clear hK K
                refine wpAny_ready (rs := [9]) (by kernel_rfl) (by simp) ?_
                refine AllReady.cons rfl (fun K hK => ?_) ?_
                ·
                  go_simp
                  refine hK _ _ ?_; clear hK K
                  refine wpAny_take (i := 10) (v := ?_) rfl (by kernel_rfl) (by kernel_rfl) (by kernel_rfl) (fun _ _ _ h => h) (Or.inl ⟨by kernel_rfl, ?_⟩) ?_
                  rotate_left 1
                  · (intro w; go_simp <;> with_reducible rfl)
                  go_simp
                  refine wpAny_done (by kernel_rfl) ?_ _
                  gi_wp2_with (gi_at_delete; refine wpListIn_delete_own _ rfl _ _ 122 43 rfl 3 kd Try.underlying122 _ bm n' D rfl hown.drew _ _ rfl (key32 hwf) ?_)
                  intro w4 hown4 hturn4
                  obtain ⟨n1, n2, n3⟩ := HDEL.out w4 hown4 hturn4
                  have k3 := n2.c3
                  have k3f := n2.free 3
                  have hbx4 : w4.cell? ⟨bx, 0, none⟩ = some (.pointer (some ⟨bd, 0, none⟩)) := by
                    rw [World.cell?_of_block (a := ⟨bx, 0, none⟩) (n3.block bx (by have := HSZ.out; have := HB1.out; omega) (by have := HSZ.out; omega))]; exact hbx3
                  have hne4 := n2.ne n1
                  have HM5 : Hid (MapZ (w4.setCell ⟨bd, 3, none⟩ (.int .i64 ((cnt : Int) - 1))) S bm n' M2) := n1.same (Below.heap_setCell _ _ _ _ (fun e => hne4 e.symm))
                  have HD5 : Hid (DrB (w4.setCell ⟨bd, 3, none⟩ (.int .i64 ((cnt : Int) - 1))) b bd bm t (cntM S t M2 : Nat)) := by
                    unfold Hid; rw [HCD.out]; exact n2.setLeft _
                  have HK5 : Hid (Kf (fun k => k = bd ∨ k = bm) W (w4.setCell ⟨bd, 3, none⟩ (.int .i64 ((cnt : Int) - 1)))) := n3.set (.inl (.inl rfl)) _
                  have hbx5 : (w4.setCell ⟨bd, 3, none⟩ (.int .i64 ((cnt : Int) - 1))).cell? ⟨bx, 0, none⟩ = some (.pointer (some ⟨bd, 0, none⟩)) := by
                    rw [World.cell?_setCell_other _ _ _ _ (by intro e; injection e with e; have := HSZ.out; omega)]; exact hbx4
                  have HE5 : Hid (E6 (w4.setCell ⟨bd, 3, none⟩ (.int .i64 ((cnt : Int) - 1))) b q S d) := HEW.out.kept HK5.out hnoB
                  have HRE : Hid (Calls Try.prog 87 #[.pointer (some ⟨bd, 0, none⟩), .int .i32 lx] (w4.setCell ⟨bd, 3, none⟩ (.int .i64 ((cnt : Int) - 1))) (ReaTo S (varZ lx) (w4.setCell ⟨bd, 3, none⟩ (.int .i64 ((cnt : Int) - 1))))) := dreason_any HE5.out HI.out HD5.out.c0 HD5.out.lt lx hl32.1 hl32.2
                  clear hown4 hturn4 n1 n2 n3 hne4 hown hlook HDEL hnoB c1 c2 c3
                  gi_wp2
                  refine ⟨trivial, CallsIn.inRound l ((callsIn_wide.2 HRE.out).mono ?_)⟩
                  rintro e w6 ⟨A6, c6, rfl, hsl6, hon6, hb6⟩
                  generalize w4.setCell ⟨bd, 3, none⟩ (.int .i64 ((cnt : Int) - 1)) = w5 at *
                  have hbx6 : w6.cell? ⟨bx, 0, none⟩ = some (.pointer (some ⟨bd, 0, none⟩)) := by
                    rw [hb6.cell (p := ⟨bx, 0, none⟩) (by have := HSZ.out; have := HB1.out; have := HK5.out.size; show bx < _; omega)]; exact hbx5
                  have HAD : Hid (Calls Try.prog 85 #[.pointer (some ⟨bd, 0, none⟩), .slice A6 (reaL S (varZ lx)).length c6] w6 (DAdd w6 b bd bm n' S t M2 (reaL S (varZ lx)))) := by
                    refine dadd_any (HE5.out.below hb6) hn9 HO.out.1 HO.out.2 (HD5.out.same (hb6.block bd HD5.out.lt)) (HM5.out.same (hb6.block bm HM5.out.lt)) hsl6 rfl (In32.of fun y hy => by have := (one_iff y).1 (HR.out.1 y hy).1; omega) (fun j hj => ?_) (by have := HR.out.2; omega) (by omega) (by have := HM2.out.2.2; omega)
                    have h1 := hon6 j hj
                    have h2 := HD5.out.lt
                    have h3 := HM5.out.lt
                    omega
                  have HK6 : Hid (Kf (fun k => k = bd ∨ k = bm) W w6) := HK5.out.trans (Kf.of_below hb6) (fun x hx => .inl hx)
                  clear hsl6 hon6 hb6 hbx5 HRE HE5 HD5 HM5 HK5
                  gi_wp2
                  refine ⟨trivial, CallsIn.inRound l ((callsIn_wide.2 HAD.out).mono ?_)⟩
                  rintro e w7 ⟨rfl, hD7, hM7, hK7⟩
                  have HK7 : Hid (Kf (fun k => k = bd ∨ k = bm) W w7) := HK6.out.trans hK7 (fun x hx => .inl hx)
                  have HFIN : Hid (ownPostG w3.heap.size (KeepB bs gt) (fun pre W => ∃ M' n', DrS w3 W b bd bm n' t S M' ∧ n' ≤ 90000 + pre.length * 90000 ∧ (pre = bw zs pre.length → Good S t (zs.length - pre.length) M')) (fun c pre W => c = .ret ∧ ∃ M' n', DrS w3 W b bd bm n' t S M' ∧ cntM S t M' = 1 ∧ (pre = bw zs pre.length → Good S t (zs.length - (pre.length - 1)) M')) (pre ++ [x]) W .normal { tmps := #[], defers := [] } w7) := by
                    refine ⟨(HNB.out _ HK7.out).1, (HNB.out _ HK7.out).2, _, _, ⟨hD7, hM7, addM_nodup HM2.out.1, fun y hy => ?_, HKFW.out.trans HK7.out (fun x hx => .inl hx)⟩, ?_, HGN.out⟩
                    · rcases addM_mem.1 hy with e | ⟨_, _, e⟩
                      · exact HM2.out.2.1 y e
                      · exact e
                    · have := HR.out.2
                      rw [HLN.out, Nat.succ_mul]; omega
                  clear hD7 hM7 hK7
                  gi_wp2
                  exact HFIN.out
                exact AllReady.nil
              refine AllReady.cons rfl (fun K hK => ?_) ?_
              ·
                go_simp
                refine hK _ _ ?_; clear hK K
                refine wpAny_ready (rs := [5]) (by kernel_rfl) (by simp) ?_
                refine AllReady.cons rfl (fun K hK => ?_) ?_
                ·
                  go_simp
                  refine hK _ _ ?_; clear hK K
                  refine wpAny_take (i := 10) (v := ?_) rfl (by kernel_rfl) (by kernel_rfl) (by kernel_rfl) (fun _ _ _ h => h) (Or.inl ⟨by kernel_rfl, ?_⟩) ?_
                  rotate_left 1
                  · (intro w; go_simp <;> with_reducible rfl)
                  go_simp
                  refine wpAny_done (by kernel_rfl) ?_ _
                  gi_wp2_with (gi_at_delete; refine wpListIn_delete_own _ rfl _ _ 122 43 rfl 3 kd Try.underlying122 _ bm n' D rfl hown.drew _ _ rfl (key32 hwf) ?_)
                  intro w4 hown4 hturn4
                  obtain ⟨n1, n2, n3⟩ := HDEL.out w4 hown4 hturn4
                  have k3 := n2.c3
                  have k3f := n2.free 3
                  have hbx4 : w4.cell? ⟨bx, 0, none⟩ = some (.pointer (some ⟨bd, 0, none⟩)) := by
                    rw [World.cell?_of_block (a := ⟨bx, 0, none⟩) (n3.block bx (by have := HSZ.out; have := HB1.out; omega) (by have := HSZ.out; omega))]; exact hbx3
                  have hne4 := n2.ne n1
                  have HM5 : Hid (MapZ (w4.setCell ⟨bd, 3, none⟩ (.int .i64 ((cnt : Int) - 1))) S bm n' M2) := n1.same (Below.heap_setCell _ _ _ _ (fun e => hne4 e.symm))
                  have HD5 : Hid (DrB (w4.setCell ⟨bd, 3, none⟩ (.int .i64 ((cnt : Int) - 1))) b bd bm t (cntM S t M2 : Nat)) := by
                    unfold Hid; rw [HCD.out]; exact n2.setLeft _
                  have HK5 : Hid (Kf (fun k => k = bd ∨ k = bm) W (w4.setCell ⟨bd, 3, none⟩ (.int .i64 ((cnt : Int) - 1)))) := n3.set (.inl (.inl rfl)) _
                  have hbx5 : (w4.setCell ⟨bd, 3, none⟩ (.int .i64 ((cnt : Int) - 1))).cell? ⟨bx, 0, none⟩ = some (.pointer (some ⟨bd, 0, none⟩)) := by
                    rw [World.cell?_setCell_other _ _ _ _ (by intro e; injection e with e; have := HSZ.out; omega)]; exact hbx4
                  have HE5 : Hid (E6 (w4.setCell ⟨bd, 3, none⟩ (.int .i64 ((cnt : Int) - 1))) b q S d) := HEW.out.kept HK5.out hnoB
                  have HRE : Hid (Calls Try.prog 87 #[.pointer (some ⟨bd, 0, none⟩), .int .i32 lx] (w4.setCell ⟨bd, 3, none⟩ (.int .i64 ((cnt : Int) - 1))) (ReaTo S (varZ lx) (w4.setCell ⟨bd, 3, none⟩ (.int .i64 ((cnt : Int) - 1))))) := dreason_any HE5.out HI.out HD5.out.c0 HD5.out.lt lx hl32.1 hl32.2
                  clear hown4 hturn4 n1 n2 n3 hne4 hown hlook HDEL hnoB c1 c2 c3
                  gi_wp2
                  refine ⟨trivial, CallsIn.inRound l ((callsIn_wide.2 HRE.out).mono ?_)⟩
                  rintro e w6 ⟨A6, c6, rfl, hsl6, hon6, hb6⟩
                  generalize w4.setCell ⟨bd, 3, none⟩ (.int .i64 ((cnt : Int) - 1)) = w5 at *
                  have hbx6 : w6.cell? ⟨bx, 0, none⟩ = some (.pointer (some ⟨bd, 0, none⟩)) := by
                    rw [hb6.cell (p := ⟨bx, 0, none⟩) (by have := HSZ.out; have := HB1.out; have := HK5.out.size; show bx < _; omega)]; exact hbx5
                  have HAD : Hid (Calls Try.prog 85 #[.pointer (some ⟨bd, 0, none⟩), .slice A6 (reaL S (varZ lx)).length c6] w6 (DAdd w6 b bd bm n' S t M2 (reaL S (varZ lx)))) := by
                    refine dadd_any (HE5.out.below hb6) hn9 HO.out.1 HO.out.2 (HD5.out.same (hb6.block bd HD5.out.lt)) (HM5.out.same (hb6.block bm HM5.out.lt)) hsl6 rfl (In32.of fun y hy => by have := (one_iff y).1 (HR.out.1 y hy).1; omega) (fun j hj => ?_) (by have := HR.out.2; omega) (by omega) (by have := HM2.out.2.2; omega)
                    have h1 := hon6 j hj
                    have h2 := HD5.out.lt
                    have h3 := HM5.out.lt
                    omega
                  have HK6 : Hid (Kf (fun k => k = bd ∨ k = bm) W w6) := HK5.out.trans (Kf.of_below hb6) (fun x hx => .inl hx)
                  clear hsl6 hon6 hb6 hbx5 HRE HE5 HD5 HM5 HK5
                  gi_wp2
                  refine ⟨trivial, CallsIn.inRound l ((callsIn_wide.2 HAD.out).mono ?_)⟩
                  rintro e w7 ⟨rfl, hD7, hM7, hK7⟩
                  have HK7 : Hid (Kf (fun k => k = bd ∨ k = bm) W w7) := HK6.out.trans hK7 (fun x hx => .inl hx)
                  have HFIN : Hid (ownPostG w3.heap.size (KeepB bs gt) (fun pre W => ∃ M' n', DrS w3 W b bd bm n' t S M' ∧ n' ≤ 90000 + pre.length * 90000 ∧ (pre = bw zs pre.length → Good S t (zs.length - pre.length) M')) (fun c pre W => c = .ret ∧ ∃ M' n', DrS w3 W b bd bm n' t S M' ∧ cntM S t M' = 1 ∧ (pre = bw zs pre.length → Good S t (zs.length - (pre.length - 1)) M')) (pre ++ [x]) W .normal { tmps := #[], defers := [] } w7) := by
                    refine ⟨(HNB.out _ HK7.out).1, (HNB.out _ HK7.out).2, _, _, ⟨hD7, hM7, addM_nodup HM2.out.1, fun y hy => ?_, HKFW.out.trans HK7.out (fun x hx => .inl hx)⟩, ?_, HGN.out⟩
                    · rcases addM_mem.1 hy with e | ⟨_, _, e⟩
                      · exact HM2.out.2.1 y e
                      · exact e
                    · have := HR.out.2
                      rw [HLN.out, Nat.succ_mul]; omega
                  clear hD7 hM7 hK7
                  gi_wp2
                  exact HFIN.out
                exact AllReady.nil
              exact AllReady.nil
            refine AllReady.cons rfl (fun K hK => ?_) ?_
            ·
              go_simp
              refine hK _ _ ?_; clear hK K
              refine wpAny_ready (rs := [3]) (by kernel_rfl) (by simp) ?_
              refine AllReady.cons rfl (fun K hK => ?_) ?_
              ·
                go_simp
                refine hK _ _ ?_; clear hK K
                refine wpAny_ready (rs := [5]) (by kernel_rfl) (by simp) ?_
                refine AllReady.cons rfl (fun K hK => ?_) ?_
                ·
                  go_simp
                  refine hK _ _ ?_; clear hK K
                  refine wpAny_take (i := 10) (v := ?_) rfl (by kernel_rfl) (by kernel_rfl) (by kernel_rfl) (fun _ _ _ h => h) (Or.inl ⟨by kernel_rfl, ?_⟩) ?_
                  rotate_left 1
                  · (intro w; go_simp <;> with_reducible rfl)
                  go_simp
                  refine wpAny_done (by kernel_rfl) ?_ _
                  gi_wp2_with (gi_at_delete; refine wpListIn_delete_own _ rfl _ _ 122 43 rfl 3 kd Try.underlying122 _ bm n' D rfl hown.drew _ _ rfl (key32 hwf) ?_)
                  intro w4 hown4 hturn4
                  obtain ⟨n1, n2, n3⟩ := HDEL.out w4 hown4 hturn4
                  have k3 := n2.c3
                  have k3f := n2.free 3
                  have hbx4 : w4.cell? ⟨bx, 0, none⟩ = some (.pointer (some ⟨bd, 0, none⟩)) := by
                    rw [World.cell?_of_block (a := ⟨bx, 0, none⟩) (n3.block bx (by have := HSZ.out; have := HB1.out; omega) (by have := HSZ.out; omega))]; exact hbx3
                  have hne4 := n2.ne n1
                  have HM5 : Hid (MapZ (w4.setCell ⟨bd, 3, none⟩ (.int .i64 ((cnt : Int) - 1))) S bm n' M2) := n1.same (Below.heap_setCell _ _ _ _ (fun e => hne4 e.symm))
                  have HD5 : Hid (DrB (w4.setCell ⟨bd, 3, none⟩ (.int .i64 ((cnt : Int) - 1))) b bd bm t (cntM S t M2 : Nat)) := by
                    unfold Hid; rw [HCD.out]; exact n2.setLeft _
                  have HK5 : Hid (Kf (fun k => k = bd ∨ k = bm) W (w4.setCell ⟨bd, 3, none⟩ (.int .i64 ((cnt : Int) - 1)))) := n3.set (.inl (.inl rfl)) _
                  have hbx5 : (w4.setCell ⟨bd, 3, none⟩ (.int .i64 ((cnt : Int) - 1))).cell? ⟨bx, 0, none⟩ = some (.pointer (some ⟨bd, 0, none⟩)) := by
                    rw [World.cell?_setCell_other _ _ _ _ (by intro e; injection e with e; have := HSZ.out; omega)]; exact hbx4
                  have HE5 : Hid (E6 (w4.setCell ⟨bd, 3, none⟩ (.int .i64 ((cnt : Int) - 1))) b q S d) := HEW.out.kept HK5.out hnoB
                  have HRE : Hid (Calls Try.prog 87 #[.pointer (some ⟨bd, 0, none⟩), .int .i32 lx] (w4.setCell ⟨bd, 3, none⟩ (.int .i64 ((cnt : Int) - 1))) (ReaTo S (varZ lx) (w4.setCell ⟨bd, 3, none⟩ (.int .i64 ((cnt : Int) - 1))))) := dreason_any HE5.out HI.out HD5.out.c0 HD5.out.lt lx hl32.1 hl32.2
                  clear hown4 hturn4 n1 n2 n3 hne4 hown hlook HDEL hnoB c1 c2 c3
                  gi_wp2
                  refine ⟨trivial, CallsIn.inRound l ((callsIn_wide.2 HRE.out).mono ?_)⟩
                  rintro e w6 ⟨A6, c6, rfl, hsl6, hon6, hb6⟩
                  generalize w4.setCell ⟨bd, 3, none⟩ (.int .i64 ((cnt : Int) - 1)) = w5 at *
                  have hbx6 : w6.cell? ⟨bx, 0, none⟩ = some (.pointer (some ⟨bd, 0, none⟩)) := by
                    rw [hb6.cell (p := ⟨bx, 0, none⟩) (by have := HSZ.out; have := HB1.out; have := HK5.out.size; show bx < _; omega)]; exact hbx5
                  have HAD : Hid (Calls Try.prog 85 #[.pointer (some ⟨bd, 0, none⟩), .slice A6 (reaL S (varZ lx)).length c6] w6 (DAdd w6 b bd bm n' S t M2 (reaL S (varZ lx)))) := by
                    refine dadd_any (HE5.out.below hb6) hn9 HO.out.1 HO.out.2 (HD5.out.same (hb6.block bd HD5.out.lt)) (HM5.out.same (hb6.block bm HM5.out.lt)) hsl6 rfl (In32.of fun y hy => by have := (one_iff y).1 (HR.out.1 y hy).1; omega) (fun j hj => ?_) (by have := HR.out.2; omega) (by omega) (by have := HM2.out.2.2; omega)
                    have h1 := hon6 j hj
                    have h2 := HD5.out.lt
                    have h3 := HM5.out.lt
                    omega
                  have HK6 : Hid (Kf (fun k => k = bd ∨ k = bm) W w6) := HK5.out.trans (Kf.of_below hb6) (fun x hx => .inl hx)
                  clear hsl6 hon6 hb6 hbx5 HRE HE5 HD5 HM5 HK5
                  gi_wp2
                  refine ⟨trivial, CallsIn.inRound l ((callsIn_wide.2 HAD.out).mono ?_)⟩
                  rintro e w7 ⟨rfl, hD7, hM7, hK7⟩
                  have HK7 : Hid (Kf (fun k => k = bd ∨ k = bm) W w7) := HK6.out.trans hK7 (fun x hx => .inl hx)
                  have HFIN : Hid (ownPostG w3.heap.size (KeepB bs gt) (fun pre W => ∃ M' n', DrS w3 W b bd bm n' t S M' ∧ n' ≤ 90000 + pre.length * 90000 ∧ (pre = bw zs pre.length → Good S t (zs.length - pre.length) M')) (fun c pre W => c = .ret ∧ ∃ M' n', DrS w3 W b bd bm n' t S M' ∧ cntM S t M' = 1 ∧ (pre = bw zs pre.length → Good S t (zs.length - (pre.length - 1)) M')) (pre ++ [x]) W .normal { tmps := #[], defers := [] } w7) := by
                    refine ⟨(HNB.out _ HK7.out).1, (HNB.out _ HK7.out).2, _, _, ⟨hD7, hM7, addM_nodup HM2.out.1, fun y hy => ?_, HKFW.out.trans HK7.out (fun x hx => .inl hx)⟩, ?_, HGN.out⟩
                    · rcases addM_mem.1 hy with e | ⟨_, _, e⟩
                      · exact HM2.out.2.1 y e
                      · exact e
                    · have := HR.out.2
                      rw [HLN.out, Nat.succ_mul]; omega
                  clear hD7 hM7 hK7
                  gi_wp2
                  exact HFIN.out
                exact AllReady.nil
              exact AllReady.nil
            exact AllReady.nil
          exact AllReady.nil
        refine AllReady.cons rfl (fun K hK => ?_) ?_
        ·
          go_simp
          refine hK _ _ ?_; clear hK K
          refine wpAny_take (i := 7) (v := ?_) rfl (by kernel_rfl) (by kernel_rfl) (by kernel_rfl) (fun _ _ _ h => h) (Or.inl ⟨by kernel_rfl, ?_⟩) ?_
          rotate_left 1
          · (intro w; go_simp <;> with_reducible rfl)
          go_simp
          refine wpAny_take (i := 8) (v := ?_) rfl (by kernel_rfl) (by kernel_rfl) (by kernel_rfl) (fun _ _ _ h => h) (Or.inl ⟨by kernel_rfl, ?_⟩) ?_
          rotate_left 1
          · (intro w; go_simp <;> with_reducible rfl)
          go_simp
          refine wpAny_ready (rs := [0, 9]) (by kernel_rfl) (by simp) ?_
          refine AllReady.cons rfl (fun K hK => ?_) ?_
          ·
            go_simp
            refine hK _ _ ?_; clear hK K
            refine wpAny_take (i := 1) (v := ?_) rfl (by kernel_rfl) (by kernel_rfl) (by kernel_rfl) (fun _ _ _ h => h) (Or.inl ⟨by kernel_rfl, ?_⟩) ?_
            rotate_left 1
            · (intro w; go_simp <;> with_reducible rfl)
            go_simp
            refine wpAny_take (i := 2) (v := ?_) rfl (by kernel_rfl) (by kernel_rfl) (by kernel_rfl) (fun _ _ _ h => h) (Or.inl ⟨by kernel_rfl, ?_⟩) ?_
            rotate_left 1
            · (intro w; go_simp <;> with_reducible rfl)
            go_simp
            refine wpAny_ready (rs := [3, 9]) (by kernel_rfl) (by simp) ?_
            refine AllReady.cons rfl (fun K hK => ?_) ?_
            ·
              go_simp
              refine hK _ _ ?_; clear hK K
              refine wpAny_ready (rs := [5, 9]) (by kernel_rfl) (by simp) ?_
              refine AllReady.cons rfl (fun K hK => ?_) ?_
              ·
                go_simp
                refine hK _ _ ?_; clear hK K
                refine wpAny_ready (rs := [9]) (by kernel_rfl) (by simp) ?_
                refine AllReady.cons rfl (fun K hK => ?_) ?_
                ·
                  go_simp
                  refine hK _ _ ?_; clear hK K
                  refine wpAny_take (i := 10) (v := ?_) rfl (by kernel_rfl) (by kernel_rfl) (by kernel_rfl) (fun _ _ _ h => h) (Or.inl ⟨by kernel_rfl, ?_⟩) ?_
                  rotate_left 1
                  · (intro w; go_simp <;> with_reducible rfl)
                  go_simp
                  refine wpAny_done (by kernel_rfl) ?_ _
                  gi_wp2_with (gi_at_delete; refine wpListIn_delete_own _ rfl _ _ 122 43 rfl 3 kd Try.underlying122 _ bm n' D rfl hown.drew _ _ rfl (key32 hwf) ?_)
                  intro w4 hown4 hturn4
                  obtain ⟨n1, n2, n3⟩ := HDEL.out w4 hown4 hturn4
                  have k3 := n2.c3
                  have k3f := n2.free 3
                  have hbx4 : w4.cell? ⟨bx, 0, none⟩ = some (.pointer (some ⟨bd, 0, none⟩)) := by
                    rw [World.cell?_of_block (a := ⟨bx, 0, none⟩) (n3.block bx (by have := HSZ.out; have := HB1.out; omega) (by have := HSZ.out; omega))]; exact hbx3
                  have hne4 := n2.ne n1
                  have HM5 : Hid (MapZ (w4.setCell ⟨bd, 3, none⟩ (.int .i64 ((cnt : Int) - 1))) S bm n' M2) := n1.same (Below.heap_setCell _ _ _ _ (fun e => hne4 e.symm))
                  have HD5 : Hid (DrB (w4.setCell ⟨bd, 3, none⟩ (.int .i64 ((cnt : Int) - 1))) b bd bm t (cntM S t M2 : Nat)) := by
                    unfold Hid; rw [HCD.out]; exact n2.setLeft _
                  have HK5 : Hid (Kf (fun k => k = bd ∨ k = bm) W (w4.setCell ⟨bd, 3, none⟩ (.int .i64 ((cnt : Int) - 1)))) := n3.set (.inl (.inl rfl)) _
                  have hbx5 : (w4.setCell ⟨bd, 3, none⟩ (.int .i64 ((cnt : Int) - 1))).cell? ⟨bx, 0, none⟩ = some (.pointer (some ⟨bd, 0, none⟩)) := by
                    rw [World.cell?_setCell_other _ _ _ _ (by intro e; injection e with e; have := HSZ.out; omega)]; exact hbx4
                  have HE5 : Hid (E6 (w4.setCell ⟨bd, 3, none⟩ (.int .i64 ((cnt : Int) - 1))) b q S d) := HEW.out.kept HK5.out hnoB
                  have HRE : Hid (Calls Try.prog 87 #[.pointer (some ⟨bd, 0, none⟩), .int .i32 lx] (w4.setCell ⟨bd, 3, none⟩ (.int .i64 ((cnt : Int) - 1))) (ReaTo S (varZ lx) (w4.setCell ⟨bd, 3, none⟩ (.int .i64 ((cnt : Int) - 1))))) := dreason_any HE5.out HI.out HD5.out.c0 HD5.out.lt lx hl32.1 hl32.2
                  clear hown4 hturn4 n1 n2 n3 hne4 hown hlook HDEL hnoB c1 c2 c3
                  gi_wp2
                  refine ⟨trivial, CallsIn.inRound l ((callsIn_wide.2 HRE.out).mono ?_)⟩
                  rintro e w6 ⟨A6, c6, rfl, hsl6, hon6, hb6⟩
                  generalize w4.setCell ⟨bd, 3, none⟩ (.int .i64 ((cnt : Int) - 1)) = w5 at *
                  have hbx6 : w6.cell? ⟨bx, 0, none⟩ = some (.pointer (some ⟨bd, 0, none⟩)) := by
                    rw [hb6.cell (p := ⟨bx, 0, none⟩) (by have := HSZ.out; have := HB1.out; have := HK5.out.size; show bx < _; omega)]; exact hbx5
                  have HAD : Hid (Calls Try.prog 85 #[.pointer (some ⟨bd, 0, none⟩), .slice A6 (reaL S (varZ lx)).length c6] w6 (DAdd w6 b bd bm n' S t M2 (reaL S (varZ lx)))) := by
                    refine dadd_any (HE5.out.below hb6) hn9 HO.out.1 HO.out.2 (HD5.out.same (hb6.block bd HD5.out.lt)) (HM5.out.same (hb6.block bm HM5.out.lt)) hsl6 rfl (In32.of fun y hy => by have := (one_iff y).1 (HR.out.1 y hy).1; omega) (fun j hj => ?_) (by have := HR.out.2; omega) (by omega) (by have := HM2.out.2.2; omega)
                    have h1 := hon6 j hj
                    have h2 := HD5.out.lt
                    have h3 := HM5.out.lt
                    omega
                  have HK6 : Hid (Kf (fun k => k = bd ∨ k = bm) W w6) := HK5.out.trans (Kf.of_below hb6) (fun x hx => .inl hx)
                  clear hsl6 hon6 hb6 hbx5 HRE HE5 HD5 HM5 HK5
                  gi_wp2
                  refine ⟨trivial, CallsIn.inRound l ((callsIn_wide.2 HAD.out).mono ?_)⟩
                  rintro e w7 ⟨rfl, hD7, hM7, hK7⟩
                  have HK7 : Hid (Kf (fun k => k = bd ∨ k = bm) W w7) := HK6.out.trans hK7 (fun x hx => .inl hx)
                  have HFIN : Hid (ownPostG w3.heap.size (KeepB bs gt) (fun pre W => ∃ M' n', DrS w3 W b bd bm n' t S M' ∧ n' ≤ 90000 + pre.length * 90000 ∧ (pre = bw zs pre.length → Good S t (zs.length - pre.length) M')) (fun c pre W => c = .ret ∧ ∃ M' n', DrS w3 W b bd bm n' t S M' ∧ cntM S t M' = 1 ∧ (pre = bw zs pre.length → Good S t (zs.length - (pre.length - 1)) M')) (pre ++ [x]) W .normal { tmps := #[], defers := [] } w7) := by
                    refine ⟨(HNB.out _ HK7.out).1, (HNB.out _ HK7.out).2, _, _, ⟨hD7, hM7, addM_nodup HM2.out.1, fun y hy => ?_, HKFW.out.trans HK7.out (fun x hx => .inl hx)⟩, ?_, HGN.out⟩
                    · rcases addM_mem.1 hy with e | ⟨_, _, e⟩
                      · exact HM2.out.2.1 y e
                      · exact e
                    · have := HR.out.2
                      rw [HLN.out, Nat.succ_mul]; omega
                  clear hD7 hM7 hK7
                  gi_wp2
                  exact HFIN.out
                exact AllReady.nil
              refine AllReady.cons rfl (fun K hK => ?_) ?_
              ·
                go_simp
                refine hK _ _ ?_; clear hK K
                refine wpAny_ready (rs := [5]) (by kernel_rfl) (by simp) ?_
                refine AllReady.cons rfl (fun K hK => ?_) ?_
                ·
                  go_simp
                  refine hK _ _ ?_; clear hK K
                  refine wpAny_take (i := 10) (v := ?_) rfl (by kernel_rfl) (by kernel_rfl) (by kernel_rfl) (fun _ _ _ h => h) (Or.inl ⟨by kernel_rfl, ?_⟩) ?_
                  rotate_left 1
                  · (intro w; go_simp <;> with_reducible rfl)
                  go_simp
                  refine wpAny_done (by kernel_rfl) ?_ _
                  gi_wp2_with (gi_at_delete; refine wpListIn_delete_own _ rfl _ _ 122 43 rfl 3 kd Try.underlying122 _ bm n' D rfl hown.drew _ _ rfl (key32 hwf) ?_)
                  intro w4 hown4 hturn4
                  obtain ⟨n1, n2, n3⟩ := HDEL.out w4 hown4 hturn4
                  have k3 := n2.c3
                  have k3f := n2.free 3
                  have hbx4 : w4.cell? ⟨bx, 0, none⟩ = some (.pointer (some ⟨bd, 0, none⟩)) := by
                    rw [World.cell?_of_block (a := ⟨bx, 0, none⟩) (n3.block bx (by have := HSZ.out; have := HB1.out; omega) (by have := HSZ.out; omega))]; exact hbx3
                  have hne4 := n2.ne n1
                  have HM5 : Hid (MapZ (w4.setCell ⟨bd, 3, none⟩ (.int .i64 ((cnt : Int) - 1))) S bm n' M2) := n1.same (Below.heap_setCell _ _ _ _ (fun e => hne4 e.symm))
                  have HD5 : Hid (DrB (w4.setCell ⟨bd, 3, none⟩ (.int .i64 ((cnt : Int) - 1))) b bd bm t (cntM S t M2 : Nat)) := by
                    unfold Hid; rw [HCD.out]; exact n2.setLeft _
                  have HK5 : Hid (Kf (fun k => k = bd ∨ k = bm) W (w4.setCell ⟨bd, 3, none⟩ (.int .i64 ((cnt : Int) - 1)))) := n3.set (.inl (.inl rfl)) _
                  have hbx5 : (w4.setCell ⟨bd, 3, none⟩ (.int .i64 ((cnt : Int) - 1))).cell? ⟨bx, 0, none⟩ = some (.pointer (some ⟨bd, 0, none⟩)) := by
                    rw [World.cell?_setCell_other _ _ _ _ (by intro e; injection e with e; have := HSZ.out; omega)]; exact hbx4
                  have HE5 : Hid (E6 (w4.setCell ⟨bd, 3, none⟩ (.int .i64 ((cnt : Int) - 1))) b q S d) := HEW.out.kept HK5.out hnoB
                  have HRE : Hid (Calls Try.prog 87 #[.pointer (some ⟨bd, 0, none⟩), .int .i32 lx] (w4.setCell ⟨bd, 3, none⟩ (.int .i64 ((cnt : Int) - 1))) (ReaTo S (varZ lx) (w4.setCell ⟨bd, 3, none⟩ (.int .i64 ((cnt : Int) - 1))))) := dreason_any HE5.out HI.out HD5.out.c0 HD5.out.lt lx hl32.1 hl32.2
                  clear hown4 hturn4 n1 n2 n3 hne4 hown hlook HDEL hnoB c1 c2 c3
                  gi_wp2
                  refine ⟨trivial, CallsIn.inRound l ((callsIn_wide.2 HRE.out).mono ?_)⟩
                  rintro e w6 ⟨A6, c6, rfl, hsl6, hon6, hb6⟩
                  generalize w4.setCell ⟨bd, 3, none⟩ (.int .i64 ((cnt : Int) - 1)) = w5 at *
                  have hbx6 : w6.cell? ⟨bx, 0, none⟩ = some (.pointer (some ⟨bd, 0, none⟩)) := by
                    rw [hb6.cell (p := ⟨bx, 0, none⟩) (by have := HSZ.out; have := HB1.out; have := HK5.out.size; show bx < _; omega)]; exact hbx5
                  have HAD : Hid (Calls Try.prog 85 #[.pointer (some ⟨bd, 0, none⟩), .slice A6 (reaL S (varZ lx)).length c6] w6 (DAdd w6 b bd bm n' S t M2 (reaL S (varZ lx)))) := by
                    refine dadd_any (HE5.out.below hb6) hn9 HO.out.1 HO.out.2 (HD5.out.same (hb6.block bd HD5.out.lt)) (HM5.out.same (hb6.block bm HM5.out.lt)) hsl6 rfl (In32.of fun y hy => by have := (one_iff y).1 (HR.out.1 y hy).1; omega) (fun j hj => ?_) (by have := HR.out.2; omega) (by omega) (by have := HM2.out.2.2; omega)
                    have h1 := hon6 j hj
                    have h2 := HD5.out.lt
                    have h3 := HM5.out.lt
                    omega
                  have HK6 : Hid (Kf (fun k => k = bd ∨ k = bm) W w6) := HK5.out.trans (Kf.of_below hb6) (fun x hx => .inl hx)
                  clear hsl6 hon6 hb6 hbx5 HRE HE5 HD5 HM5 HK5
                  gi_wp2
                  refine ⟨trivial, CallsIn.inRound l ((callsIn_wide.2 HAD.out).mono ?_)⟩
                  rintro e w7 ⟨rfl, hD7, hM7, hK7⟩
                  have HK7 : Hid (Kf (fun k => k = bd ∨ k = bm) W w7) := HK6.out.trans hK7 (fun x hx => .inl hx)
                  have HFIN : Hid (ownPostG w3.heap.size (KeepB bs gt) (fun pre W => ∃ M' n', DrS w3 W b bd bm n' t S M' ∧ n' ≤ 90000 + pre.length * 90000 ∧ (pre = bw zs pre.length → Good S t (zs.length - pre.length) M')) (fun c pre W => c = .ret ∧ ∃ M' n', DrS w3 W b bd bm n' t S M' ∧ cntM S t M' = 1 ∧ (pre = bw zs pre.length → Good S t (zs.length - (pre.length - 1)) M')) (pre ++ [x]) W .normal { tmps := #[], defers := [] } w7) := by
                    refine ⟨(HNB.out _ HK7.out).1, (HNB.out _ HK7.out).2, _, _, ⟨hD7, hM7, addM_nodup HM2.out.1, fun y hy => ?_, HKFW.out.trans HK7.out (fun x hx => .inl hx)⟩, ?_, HGN.out⟩
                    · rcases addM_mem.1 hy with e | ⟨_, _, e⟩
                      · exact HM2.out.2.1 y e
                      · exact e
                    · have := HR.out.2
                      rw [HLN.out, Nat.succ_mul]; omega
                  clear hD7 hM7 hK7
                  gi_wp2
                  exact HFIN.out
                exact AllReady.nil
              exact AllReady.nil
            refine AllReady.cons rfl (fun K hK => ?_) ?_
            ·
              go_simp
              refine hK _ _ ?_; clear hK K
              refine wpAny_ready (rs := [3]) (by kernel_rfl) (by simp) ?_
              refine AllReady.cons rfl (fun K hK => ?_) ?_
              ·
                go_simp
                refine hK _ _ ?_; clear hK K
                refine wpAny_ready (rs := [5]) (by kernel_rfl) (by simp) ?_
                refine AllReady.cons rfl (fun K hK => ?_) ?_
                ·
                  go_simp
                  refine hK _ _ ?_; clear hK K
                  refine wpAny_take (i := 10) (v := ?_) rfl (by kernel_rfl) (by kernel_rfl) (by kernel_rfl) (fun _ _ _ h => h) (Or.inl ⟨by kernel_rfl, ?_⟩) ?_
                  rotate_left 1
                  · (intro w; go_simp <;> with_reducible rfl)
                  go_simp
                  refine wpAny_done (by kernel_rfl) ?_ _
                  gi_wp2_with (gi_at_delete; refine wpListIn_delete_own _ rfl _ _ 122 43 rfl 3 kd Try.underlying122 _ bm n' D rfl hown.drew _ _ rfl (key32 hwf) ?_)
                  intro w4 hown4 hturn4
                  obtain ⟨n1, n2, n3⟩ := HDEL.out w4 hown4 hturn4
                  have k3 := n2.c3
                  have k3f := n2.free 3
                  have hbx4 : w4.cell? ⟨bx, 0, none⟩ = some (.pointer (some ⟨bd, 0, none⟩)) := by
                    rw [World.cell?_of_block (a := ⟨bx, 0, none⟩) (n3.block bx (by have := HSZ.out; have := HB1.out; omega) (by have := HSZ.out; omega))]; exact hbx3
                  have hne4 := n2.ne n1
                  have HM5 : Hid (MapZ (w4.setCell ⟨bd, 3, none⟩ (.int .i64 ((cnt : Int) - 1))) S bm n' M2) := n1.same (Below.heap_setCell _ _ _ _ (fun e => hne4 e.symm))
                  have HD5 : Hid (DrB (w4.setCell ⟨bd, 3, none⟩ (.int .i64 ((cnt : Int) - 1))) b bd bm t (cntM S t M2 : Nat)) := by
                    unfold Hid; rw [HCD.out]; exact n2.setLeft _
                  have HK5 : Hid (Kf (fun k => k = bd ∨ k = bm) W (w4.setCell ⟨bd, 3, none⟩ (.int .i64 ((cnt : Int) - 1)))) := n3.set (.inl (.inl rfl)) _
                  have hbx5 : (w4.setCell ⟨bd, 3, none⟩ (.int .i64 ((cnt : Int) - 1))).cell? ⟨bx, 0, none⟩ = some (.pointer (some ⟨bd, 0, none⟩)) := by
                    rw [World.cell?_setCell_other _ _ _ _ (by intro e; injection e with e; have := HSZ.out; omega)]; exact hbx4
                  have HE5 : Hid (E6 (w4.setCell ⟨bd, 3, none⟩ (.int .i64 ((cnt : Int) - 1))) b q S d) := HEW.out.kept HK5.out hnoB
                  have HRE : Hid (Calls Try.prog 87 #[.pointer (some ⟨bd, 0, none⟩), .int .i32 lx] (w4.setCell ⟨bd, 3, none⟩ (.int .i64 ((cnt : Int) - 1))) (ReaTo S (varZ lx) (w4.setCell ⟨bd, 3, none⟩ (.int .i64 ((cnt : Int) - 1))))) := dreason_any HE5.out HI.out HD5.out.c0 HD5.out.lt lx hl32.1 hl32.2
                  clear hown4 hturn4 n1 n2 n3 hne4 hown hlook HDEL hnoB c1 c2 c3
                  gi_wp2
                  refine ⟨trivial, CallsIn.inRound l ((callsIn_wide.2 HRE.out).mono ?_)⟩
                  rintro e w6 ⟨A6, c6, rfl, hsl6, hon6, hb6⟩
                  generalize w4.setCell ⟨bd, 3, none⟩ (.int .i64 ((cnt : Int) - 1)) = w5 at *
                  have hbx6 : w6.cell? ⟨bx, 0, none⟩ = some (.pointer (some ⟨bd, 0, none⟩)) := by
                    rw [hb6.cell (p := ⟨bx, 0, none⟩) (by have := HSZ.out; have := HB1.out; have := HK5.out.size; show bx < _; omega)]; exact hbx5
                  have HAD : Hid (Calls Try.prog 85 #[.pointer (some ⟨bd, 0, none⟩), .slice A6 (reaL S (varZ lx)).length c6] w6 (DAdd w6 b bd bm n' S t M2 (reaL S (varZ lx)))) := by
                    refine dadd_any (HE5.out.below hb6) hn9 HO.out.1 HO.out.2 (HD5.out.same (hb6.block bd HD5.out.lt)) (HM5.out.same (hb6.block bm HM5.out.lt)) hsl6 rfl (In32.of fun y hy => by have := (one_iff y).1 (HR.out.1 y hy).1; omega) (fun j hj => ?_) (by have := HR.out.2; omega) (by omega) (by have := HM2.out.2.2; omega)
                    have h1 := hon6 j hj
                    have h2 := HD5.out.lt
                    have h3 := HM5.out.lt
                    omega
                  have HK6 : Hid (Kf (fun k => k = bd ∨ k = bm) W w6) := HK5.out.trans (Kf.of_below hb6) (fun x hx => .inl hx)
                  clear hsl6 hon6 hb6 hbx5 HRE HE5 HD5 HM5 HK5
                  gi_wp2
                  refine ⟨trivial, CallsIn.inRound l ((callsIn_wide.2 HAD.out).mono ?_)⟩
                  rintro e w7 ⟨rfl, hD7, hM7, hK7⟩
                  have HK7 : Hid (Kf (fun k => k = bd ∨ k = bm) W w7) := HK6.out.trans hK7 (fun x hx => .inl hx)
                  have HFIN : Hid (ownPostG w3.heap.size (KeepB bs gt) (fun pre W => ∃ M' n', DrS w3 W b bd bm n' t S M' ∧ n' ≤ 90000 + pre.length * 90000 ∧ (pre = bw zs pre.length → Good S t (zs.length - pre.length) M')) (fun c pre W => c = .ret ∧ ∃ M' n', DrS w3 W b bd bm n' t S M' ∧ cntM S t M' = 1 ∧ (pre = bw zs pre.length → Good S t (zs.length - (pre.length - 1)) M')) (pre ++ [x]) W .normal { tmps := #[], defers := [] } w7) := by
                    refine ⟨(HNB.out _ HK7.out).1, (HNB.out _ HK7.out).2, _, _, ⟨hD7, hM7, addM_nodup HM2.out.1, fun y hy => ?_, HKFW.out.trans HK7.out (fun x hx => .inl hx)⟩, ?_, HGN.out⟩
                    · rcases addM_mem.1 hy with e | ⟨_, _, e⟩
                      · exact HM2.out.2.1 y e
                      · exact e
                    · have := HR.out.2
                      rw [HLN.out, Nat.succ_mul]; omega
                  clear hD7 hM7 hK7
                  gi_wp2
                  exact HFIN.out
                exact AllReady.nil
              exact AllReady.nil
            exact AllReady.nil
          refine AllReady.cons rfl (fun K hK => ?_) ?_
          ·
            go_simp
            refine hK _ _ ?_; clear hK K
            refine wpAny_ready (rs := [0]) (by kernel_rfl) (by simp) ?_
            refine AllReady.cons rfl (fun K hK => ?_) ?_
            ·
              go_simp
              refine hK _ _ ?_; clear hK K
              refine wpAny_take (i := 1) (v := ?_) rfl (by kernel_rfl) (by kernel_rfl) (by kernel_rfl) (fun _ _ _ h => h) (Or.inl ⟨by kernel_rfl, ?_⟩) ?_
              rotate_left 1
              · (intro w; go_simp <;> with_reducible rfl)
              go_simp
              refine wpAny_take (i := 2) (v := ?_) rfl (by kernel_rfl) (by kernel_rfl) (by kernel_rfl) (fun _ _ _ h => h) (Or.inl ⟨by kernel_rfl, ?_⟩) ?_
              rotate_left 1
              · (intro w; go_simp <;> with_reducible rfl)
              go_simp
              refine wpAny_ready (rs := [3]) (by kernel_rfl) (by simp) ?_
              refine AllReady.cons rfl (fun K hK => ?_) ?_
              ·
                go_simp
                refine hK _ _ ?_; clear hK K
                refine wpAny_ready (rs := [5]) (by kernel_rfl) (by simp) ?_
                refine AllReady.cons rfl (fun K hK => ?_) ?_
                ·
                  go_simp
                  refine hK _ _ ?_; clear hK K
                  refine wpAny_take (i := 10) (v := ?_) rfl (by kernel_rfl) (by kernel_rfl) (by kernel_rfl) (fun _ _ _ h => h) (Or.inl ⟨by kernel_rfl, ?_⟩) ?_
                  rotate_left 1
                  · (intro w; go_simp <;> with_reducible rfl)
                  go_simp
                  refine wpAny_done (by kernel_rfl) ?_ _
                  gi_wp2_with (gi_at_delete; refine wpListIn_delete_own _ rfl _ _ 122 43 rfl 3 kd Try.underlying122 _ bm n' D rfl hown.drew _ _ rfl (key32 hwf) ?_)
                  intro w4 hown4 hturn4
                  obtain ⟨n1, n2, n3⟩ := HDEL.out w4 hown4 hturn4
                  have k3 := n2.c3
                  have k3f := n2.free 3
                  have hbx4 : w4.cell? ⟨bx, 0, none⟩ = some (.pointer (some ⟨bd, 0, none⟩)) := by
                    rw [World.cell?_of_block (a := ⟨bx, 0, none⟩) (n3.block bx (by have := HSZ.out; have := HB1.out; omega) (by have := HSZ.out; omega))]; exact hbx3
                  have hne4 := n2.ne n1
                  have HM5 : Hid (MapZ (w4.setCell ⟨bd, 3, none⟩ (.int .i64 ((cnt : Int) - 1))) S bm n' M2) := n1.same (Below.heap_setCell _ _ _ _ (fun e => hne4 e.symm))
                  have HD5 : Hid (DrB (w4.setCell ⟨bd, 3, none⟩ (.int .i64 ((cnt : Int) - 1))) b bd bm t (cntM S t M2 : Nat)) := by
                    unfold Hid; rw [HCD.out]; exact n2.setLeft _
                  have HK5 : Hid (Kf (fun k => k = bd ∨ k = bm) W (w4.setCell ⟨bd, 3, none⟩ (.int .i64 ((cnt : Int) - 1)))) := n3.set (.inl (.inl rfl)) _
                  have hbx5 : (w4.setCell ⟨bd, 3, none⟩ (.int .i64 ((cnt : Int) - 1))).cell? ⟨bx, 0, none⟩ = some (.pointer (some ⟨bd, 0, none⟩)) := by
                    rw [World.cell?_setCell_other _ _ _ _ (by intro e; injection e with e; have := HSZ.out; omega)]; exact hbx4
                  have HE5 : Hid (E6 (w4.setCell ⟨bd, 3, none⟩ (.int .i64 ((cnt : Int) - 1))) b q S d) := HEW.out.kept HK5.out hnoB
                  have HRE : Hid (Calls Try.prog 87 #[.pointer (some ⟨bd, 0, none⟩), .int .i32 lx] (w4.setCell ⟨bd, 3, none⟩ (.int .i64 ((cnt : Int) - 1))) (ReaTo S (varZ lx) (w4.setCell ⟨bd, 3, none⟩ (.int .i64 ((cnt : Int) - 1))))) := dreason_any HE5.out HI.out HD5.out.c0 HD5.out.lt lx hl32.1 hl32.2
                  clear hown4 hturn4 n1 n2 n3 hne4 hown hlook HDEL hnoB c1 c2 c3
                  gi_wp2
                  refine ⟨trivial, CallsIn.inRound l ((callsIn_wide.2 HRE.out).mono ?_)⟩
                  rintro e w6 ⟨A6, c6, rfl, hsl6, hon6, hb6⟩
                  generalize w4.setCell ⟨bd, 3, none⟩ (.int .i64 ((cnt : Int) - 1)) = w5 at *
                  have hbx6 : w6.cell? ⟨bx, 0, none⟩ = some (.pointer (some ⟨bd, 0, none⟩)) := by
                    rw [hb6.cell (p := ⟨bx, 0, none⟩) (by have := HSZ.out; have := HB1.out; have := HK5.out.size; show bx < _; omega)]; exact hbx5
                  have HAD : Hid (Calls Try.prog 85 #[.pointer (some ⟨bd, 0, none⟩), .slice A6 (reaL S (varZ lx)).length c6] w6 (DAdd w6 b bd bm n' S t M2 (reaL S (varZ lx)))) := by
                    refine dadd_any (HE5.out.below hb6) hn9 HO.out.1 HO.out.2 (HD5.out.same (hb6.block bd HD5.out.lt)) (HM5.out.same (hb6.block bm HM5.out.lt)) hsl6 rfl (In32.of fun y hy => by have := (one_iff y).1 (HR.out.1 y hy).1; omega) (fun j hj => ?_) (by have := HR.out.2; omega) (by omega) (by have := HM2.out.2.2; omega)
                    have h1 := hon6 j hj
                    have h2 := HD5.out.lt
                    have h3 := HM5.out.lt
                    omega
                  have HK6 : Hid (Kf (fun k => k = bd ∨ k = bm) W w6) := HK5.out.trans (Kf.of_below hb6) (fun x hx => .inl hx)
                  clear hsl6 hon6 hb6 hbx5 HRE HE5 HD5 HM5 HK5
                  gi_wp2
                  refine ⟨trivial, CallsIn.inRound l ((callsIn_wide.2 HAD.out).mono ?_)⟩
                  rintro e w7 ⟨rfl, hD7, hM7, hK7⟩
                  have HK7 : Hid (Kf (fun k => k = bd ∨ k = bm) W w7) := HK6.out.trans hK7 (fun x hx => .inl hx)
                  have HFIN : Hid (ownPostG w3.heap.size (KeepB bs gt) (fun pre W => ∃ M' n', DrS w3 W b bd bm n' t S M' ∧ n' ≤ 90000 + pre.length * 90000 ∧ (pre = bw zs pre.length → Good S t (zs.length - pre.length) M')) (fun c pre W => c = .ret ∧ ∃ M' n', DrS w3 W b bd bm n' t S M' ∧ cntM S t M' = 1 ∧ (pre = bw zs pre.length → Good S t (zs.length - (pre.length - 1)) M')) (pre ++ [x]) W .normal { tmps := #[], defers := [] } w7) := by
                    refine ⟨(HNB.out _ HK7.out).1, (HNB.out _ HK7.out).2, _, _, ⟨hD7, hM7, addM_nodup HM2.out.1, fun y hy => ?_, HKFW.out.trans HK7.out (fun x hx => .inl hx)⟩, ?_, HGN.out⟩
                    · rcases addM_mem.1 hy with e | ⟨_, _, e⟩
                      · exact HM2.out.2.1 y e
                      · exact e
                    · have := HR.out.2
                      rw [HLN.out, Nat.succ_mul]; omega
                  clear hD7 hM7 hK7
                  gi_wp2
                  exact HFIN.out
                exact AllReady.nil
              exact AllReady.nil
            exact AllReady.nil
          exact AllReady.nil
        exact AllReady.nil
      · have hzt : z ≠ (t : Int) := fun e => by
          by_cases hin : wrong ∈ M'
          · exact hcond ⟨hin, (hz1 hin).symm.trans e⟩
          · rw [hz2 hin] at e; omega
        have tz : (z != (t : Int)) = true := by simpa using hzt
        have HFIN : Hid (ownPostG w3.heap.size (KeepB bs gt) (fun pre W => ∃ M' n', DrS w3 W b bd bm n' t S M' ∧ n' ≤ 90000 + pre.length * 90000 ∧ (pre = bw zs pre.length → Good S t (zs.length - pre.length) M')) (fun c pre W => c = .ret ∧ ∃ M' n', DrS w3 W b bd bm n' t S M' ∧ cntM S t M' = 1 ∧ (pre = bw zs pre.length → Good S t (zs.length - (pre.length - 1)) M')) (pre ++ [x]) W .normal { tmps := #[], defers := [] } W.drew) := by
          refine ⟨(HNB.out _ (Kf.refl _ _).drew).1, (HNB.out _ (Kf.refl _ _).drew).2, M', n', ⟨hS.blk.same rfl, hS.mp.same rfl, hS.nd, hS.fl, hS.kf.drew⟩, Nat.le_trans hn' (by rw [HLN.out]; exact Nat.add_le_add_left (Nat.mul_le_mul_right _ (Nat.le_succ _)) _), fun e => ?_⟩
          obtain ⟨e1, e2⟩ := HPRE.out e
          have hg := HGD.out e1
          rw [HLN.out]
          rw [show zs.length - pre.length = (zs.length - (pre.length + 1)) + 1 from by omega] at hg
          have hk : zs.length - (pre.length + 1) = x := by omega
          rw [hk] at hg ⊢
          have hxl : x < S.L.length := by omega
          refine good_skip hg (List.getElem?_eq_getElem hxl) (fun hc => hcond ?_)
          have hwx : wrong = -S.L[x].l := by
            rcases hcase with e3 | ⟨y, hy, e3⟩
            · exfalso
              rw [HZ.out, List.getElem?_map, List.getElem?_eq_getElem hxl] at e3
              have ho := (one_iff _).1 (HI.out.pre.one _ (List.getElem_mem hxl)).1
              simp at e3; omega
            · rw [List.getElem?_eq_getElem hxl] at hy
              injection hy with hy
              rw [hwr, e3, ← hy, not_one (HI.out.pre.one _ (List.getElem_mem hxl)).1]
          rw [hwx]; exact hc
        clear hS hgd hnB hnoB hown hkeys hwr hcase hwcase hz1 hz2 hcond hone' HPRE HGD
        generalize zs[x]?.getD 0 = lx at *
        generalize cntM S t M' = cnt at *
        gi_wp2
        refine ⟨trivial, CallsIn.inRound l ((callsIn_wide.2 (HNot.out W)).mono ?_)⟩
        rintro e w' ⟨rfl, rfl⟩
        gi_upto_region 5 with (fail)
        refine wpIn_region_any (by kernel_rfl) (any_in l 7 (no_defer (by kernel_rfl)) (by rintro ⟨_, _, h⟩; exact h) _ _ _ _ ?_)
        change wpAny _ _ _ _ _ _ _ (World.drew _)
        refine wpAny_take (i := 4) (v := ?_) rfl (by kernel_rfl) (by kernel_rfl) (by kernel_rfl) (fun _ _ _ h => h) (Or.inl ⟨by kernel_rfl, ?_⟩) ?_
        rotate_left 1
        · (intro w; go_simp <;> with_reducible rfl)
        go_simp
        refine wpAny_ready (rs := [0, 6]) (by kernel_rfl) (by simp) ?_
        refine AllReady.cons rfl (fun K hK => ?_) ?_
        ·
          go_simp
          refine hK _ _ ?_; clear hK K
          refine wpAny_take (i := 1) (v := ?_) rfl (by kernel_rfl) (by kernel_rfl) (by kernel_rfl) (fun _ _ _ h => h) (Or.inl ⟨by kernel_rfl, ?_⟩) ?_
          rotate_left 1
          · (intro w; go_simp <;> with_reducible rfl)
          go_simp
          refine wpAny_take (i := 2) (v := ?_) rfl (by kernel_rfl) (by kernel_rfl) (by kernel_rfl) (fun _ _ _ h => h) (Or.inl ⟨by kernel_rfl, ?_⟩) ?_
          rotate_left 1
          · (intro w; go_simp <;> with_reducible rfl)
          go_simp
          refine wpAny_ready (rs := [3, 6]) (by kernel_rfl) (by simp) ?_
          refine AllReady.cons rfl (fun K hK => ?_) ?_
          ·
            go_simp
            refine hK _ _ ?_; clear hK K
            refine wpAny_ready (rs := [5, 6]) (by kernel_rfl) (by simp) ?_
            refine AllReady.cons rfl (fun K hK => ?_) ?_
            ·
              go_simp
              refine hK _ _ ?_; clear hK K
              refine wpAny_ready (rs := [6]) (by kernel_rfl) (by simp) ?_
              refine AllReady.cons rfl (fun K hK => ?_) ?_
              ·
                go_simp
                refine hK _ _ ?_; clear hK K
                refine wpAny_take (i := 7) (v := ?_) rfl (by kernel_rfl) (by kernel_rfl) (by kernel_rfl) (fun _ _ _ h => h) (Or.inl ⟨by kernel_rfl, ?_⟩) ?_
                rotate_left 1
                · (intro w; go_simp <;> with_reducible rfl)
                go_simp
                refine wpAny_take (i := 8) (v := ?_) rfl (by kernel_rfl) (by kernel_rfl) (by kernel_rfl) (fun _ _ _ h => h) (Or.inl ⟨by kernel_rfl, ?_⟩) ?_
                rotate_left 1
                · (intro w; go_simp <;> with_reducible rfl)
                go_simp
                refine wpAny_ready (rs := [9]) (by kernel_rfl) (by simp) ?_
                refine AllReady.cons rfl (fun K hK => ?_) ?_
                ·
                  go_simp
                  refine hK _ _ ?_; clear hK K
                  refine wpAny_take (i := 10) (v := ?_) rfl (by kernel_rfl) (by kernel_rfl) (by kernel_rfl) (fun _ _ _ h => h) (Or.inl ⟨by kernel_rfl, ?_⟩) ?_
                  rotate_left 1
                  · (intro w; go_simp <;> with_reducible rfl)
                  go_simp
                  refine wpAny_done (by kernel_rfl) ?_ _
                  gi_wp2
                  exact HFIN.out
                exact AllReady.nil
              exact AllReady.nil
            refine AllReady.cons rfl (fun K hK => ?_) ?_
            ·
              go_simp
              refine hK _ _ ?_; clear hK K
              refine wpAny_take (i := 7) (v := ?_) rfl (by kernel_rfl) (by kernel_rfl) (by kernel_rfl) (fun _ _ _ h => h) (Or.inl ⟨by kernel_rfl, ?_⟩) ?_
              rotate_left 1
              · (intro w; go_simp <;> with_reducible rfl)
              go_simp
              refine wpAny_take (i := 8) (v := ?_) rfl (by kernel_rfl) (by kernel_rfl) (by kernel_rfl) (fun _ _ _ h => h) (Or.inl ⟨by kernel_rfl, ?_⟩) ?_
              rotate_left 1
              · (intro w; go_simp <;> with_reducible rfl)
              go_simp
              refine wpAny_ready (rs := [5, 9]) (by kernel_rfl) (by simp) ?_
              refine AllReady.cons rfl (fun K hK => ?_) ?_
              ·
                go_simp
                refine hK _ _ ?_; clear hK K
                refine wpAny_ready (rs := [9]) (by kernel_rfl) (by simp) ?_
                refine AllReady.cons rfl (fun K hK => ?_) ?_
                ·
                  go_simp
                  refine hK _ _ ?_; clear hK K
                  refine wpAny_take (i := 10) (v := ?_) rfl (by kernel_rfl) (by kernel_rfl) (by kernel_rfl) (fun _ _ _ h => h) (Or.inl ⟨by kernel_rfl, ?_⟩) ?_
                  rotate_left 1
                  · (intro w; go_simp <;> with_reducible rfl)
                  go_simp
                  refine wpAny_done (by kernel_rfl) ?_ _
                  gi_wp2
                  exact HFIN.out
                exact AllReady.nil
              refine AllReady.cons rfl (fun K hK => ?_) ?_
              ·
                go_simp
                refine hK _ _ ?_; clear hK K
                refine wpAny_ready (rs := [5]) (by kernel_rfl) (by simp) ?_
                refine AllReady.cons rfl (fun K hK => ?_) ?_
                ·
                  go_simp
                  refine hK _ _ ?_; clear hK K
                  refine wpAny_take (i := 10) (v := ?_) rfl (by kernel_rfl) (by kernel_rfl) (by kernel_rfl) (fun _ _ _ h => h) (Or.inl ⟨by kernel_rfl, ?_⟩) ?_
                  rotate_left 1
                  · (intro w; go_simp <;> with_reducible rfl)
                  go_simp
                  refine wpAny_done (by kernel_rfl) ?_ _
                  gi_wp2
                  exact HFIN.out
                exact AllReady.nil
              exact AllReady.nil
            exact AllReady.nil
          refine AllReady.cons rfl (fun K hK => ?_) ?_
          ·
            go_simp
            refine hK _ _ ?_; clear hK K
            refine wpAny_take (i := 7) (v := ?_) rfl (by kernel_rfl) (by kernel_rfl) (by kernel_rfl) (fun _ _ _ h => h) (Or.inl ⟨by kernel_rfl, ?_⟩) ?_
            rotate_left 1
            · (intro w; go_simp <;> with_reducible rfl)
            go_simp
            refine wpAny_take (i := 8) (v := ?_) rfl (by kernel_rfl) (by kernel_rfl) (by kernel_rfl) (fun _ _ _ h => h) (Or.inl ⟨by kernel_rfl, ?_⟩) ?_
            rotate_left 1
            · (intro w; go_simp <;> with_reducible rfl)
            go_simp
            refine wpAny_ready (rs := [3, 9]) (by kernel_rfl) (by simp) ?_
            refine AllReady.cons rfl (fun K hK => ?_) ?_
            ·
              go_simp
              refine hK _ _ ?_; clear hK K
              refine wpAny_ready (rs := [5, 9]) (by kernel_rfl) (by simp) ?_
              refine AllReady.cons rfl (fun K hK => ?_) ?_
              ·
                go_simp
                refine hK _ _ ?_; clear hK K
                refine wpAny_ready (rs := [9]) (by kernel_rfl) (by simp) ?_
                refine AllReady.cons rfl (fun K hK => ?_) ?_
                ·
                  go_simp
                  refine hK _ _ ?_; clear hK K
                  refine wpAny_take (i := 10) (v := ?_) rfl (by kernel_rfl) (by kernel_rfl) (by kernel_rfl) (fun _ _ _ h => h) (Or.inl ⟨by kernel_rfl, ?_⟩) ?_
                  rotate_left 1
                  · (intro w; go_simp <;> with_reducible rfl)
                  go_simp
                  refine wpAny_done (by kernel_rfl) ?_ _
                  gi_wp2
                  exact HFIN.out
                exact AllReady.nil
              refine AllReady.cons rfl (fun K hK => ?_) ?_
              ·
                go_simp
                refine hK _ _ ?_; clear hK K
                refine wpAny_ready (rs := [5]) (by kernel_rfl) (by simp) ?_
                refine AllReady.cons rfl (fun K hK => ?_) ?_
                ·
                  go_simp
                  refine hK _ _ ?_; clear hK K
                  refine wpAny_take (i := 10) (v := ?_) rfl (by kernel_rfl) (by kernel_rfl) (by kernel_rfl) (fun _ _ _ h => h) (Or.inl ⟨by kernel_rfl, ?_⟩) ?_
                  rotate_left 1
                  · (intro w; go_simp <;> with_reducible rfl)
                  go_simp
                  refine wpAny_done (by kernel_rfl) ?_ _
                  gi_wp2
                  exact HFIN.out
                exact AllReady.nil
              exact AllReady.nil
            refine AllReady.cons rfl (fun K hK => ?_) ?_
            ·
              go_simp
              refine hK _ _ ?_; clear hK K
              refine wpAny_ready (rs := [3]) (by kernel_rfl) (by simp) ?_
              refine AllReady.cons rfl (fun K hK => ?_) ?_
              ·
                go_simp
                refine hK _ _ ?_; clear hK K
                refine wpAny_ready (rs := [5]) (by kernel_rfl) (by simp) ?_
                refine AllReady.cons rfl (fun K hK => ?_) ?_
                ·
                  go_simp
                  refine hK _ _ ?_; clear hK K
                  refine wpAny_take (i := 10) (v := ?_) rfl (by kernel_rfl) (by kernel_rfl) (by kernel_rfl) (fun _ _ _ h => h) (Or.inl ⟨by kernel_rfl, ?_⟩) ?_
                  rotate_left 1
                  · (intro w; go_simp <;> with_reducible rfl)
                  go_simp
                  refine wpAny_done (by kernel_rfl) ?_ _
                  gi_wp2
                  exact HFIN.out
                exact AllReady.nil
              exact AllReady.nil
            exact AllReady.nil
          exact AllReady.nil
        refine AllReady.cons rfl (fun K hK => ?_) ?_
        ·
          go_simp
          refine hK _ _ ?_; clear hK K
          refine wpAny_take (i := 7) (v := ?_) rfl (by kernel_rfl) (by kernel_rfl) (by kernel_rfl) (fun _ _ _ h => h) (Or.inl ⟨by kernel_rfl, ?_⟩) ?_
          rotate_left 1
          · (intro w; go_simp <;> with_reducible rfl)
          go_simp
          refine wpAny_take (i := 8) (v := ?_) rfl (by kernel_rfl) (by kernel_rfl) (by kernel_rfl) (fun _ _ _ h => h) (Or.inl ⟨by kernel_rfl, ?_⟩) ?_
          rotate_left 1
          · (intro w; go_simp <;> with_reducible rfl)
          go_simp
          refine wpAny_ready (rs := [0, 9]) (by kernel_rfl) (by simp) ?_
          refine AllReady.cons rfl (fun K hK => ?_) ?_
          ·
            go_simp
            refine hK _ _ ?_; clear hK K
            refine wpAny_take (i := 1) (v := ?_) rfl (by kernel_rfl) (by kernel_rfl) (by kernel_rfl) (fun _ _ _ h => h) (Or.inl ⟨by kernel_rfl, ?_⟩) ?_
            rotate_left 1
            · (intro w; go_simp <;> with_reducible rfl)
            go_simp
            refine wpAny_take (i := 2) (v := ?_) rfl (by kernel_rfl) (by kernel_rfl) (by kernel_rfl) (fun _ _ _ h => h) (Or.inl ⟨by kernel_rfl, ?_⟩) ?_
            rotate_left 1
            · (intro w; go_simp <;> with_reducible rfl)
            go_simp
            refine wpAny_ready (rs := [3, 9]) (by kernel_rfl) (by simp) ?_
            refine AllReady.cons rfl (fun K hK => ?_) ?_
            ·
              go_simp
              refine hK _ _ ?_; clear hK K
              refine wpAny_ready (rs := [5, 9]) (by kernel_rfl) (by simp) ?_
              refine AllReady.cons rfl (fun K hK => ?_) ?_
              ·
                go_simp
                refine hK _ _ ?_; clear hK K
                refine wpAny_ready (rs := [9]) (by kernel_rfl) (by simp) ?_
                refine AllReady.cons rfl (fun K hK => ?_) ?_
                ·
                  go_simp
                  refine hK _ _ ?_; clear hK K
                  refine wpAny_take (i := 10) (v := ?_) rfl (by kernel_rfl) (by kernel_rfl) (by kernel_rfl) (fun _ _ _ h => h) (Or.inl ⟨by kernel_rfl, ?_⟩) ?_
                  rotate_left 1
                  · (intro w; go_simp <;> with_reducible rfl)
                  go_simp
                  refine wpAny_done (by kernel_rfl) ?_ _
                  gi_wp2
                  exact HFIN.out
                exact AllReady.nil
              refine AllReady.cons rfl (fun K hK => ?_) ?_
              ·
                go_simp
                refine hK _ _ ?_; clear hK K
                refine wpAny_ready (rs := [5]) (by kernel_rfl) (by simp) ?_
                refine AllReady.cons rfl (fun K hK => ?_) ?_
                ·
                  go_simp
                  refine hK _ _ ?_; clear hK K
                  refine wpAny_take (i := 10) (v := ?_) rfl (by kernel_rfl) (by kernel_rfl) (by kernel_rfl) (fun _ _ _ h => h) (Or.inl ⟨by kernel_rfl, ?_⟩) ?_
                  rotate_left 1
                  · (intro w; go_simp <;> with_reducible rfl)
                  go_simp
                  refine wpAny_done (by kernel_rfl) ?_ _
                  gi_wp2
                  exact HFIN.out
                exact AllReady.nil
              exact AllReady.nil
            refine AllReady.cons rfl (fun K hK => ?_) ?_
            ·
              go_simp
              refine hK _ _ ?_; clear hK K
              refine wpAny_ready (rs := [3]) (by kernel_rfl) (by simp) ?_
              refine AllReady.cons rfl (fun K hK => ?_) ?_
              ·
                go_simp
                refine hK _ _ ?_; clear hK K
                refine wpAny_ready (rs := [5]) (by kernel_rfl) (by simp) ?_
                refine AllReady.cons rfl (fun K hK => ?_) ?_
                ·
                  go_simp
                  refine hK _ _ ?_; clear hK K
                  refine wpAny_take (i := 10) (v := ?_) rfl (by kernel_rfl) (by kernel_rfl) (by kernel_rfl) (fun _ _ _ h => h) (Or.inl ⟨by kernel_rfl, ?_⟩) ?_
                  rotate_left 1
                  · (intro w; go_simp <;> with_reducible rfl)
                  go_simp
                  refine wpAny_done (by kernel_rfl) ?_ _
                  gi_wp2
                  exact HFIN.out
                exact AllReady.nil
              exact AllReady.nil
            exact AllReady.nil
          refine AllReady.cons rfl (fun K hK => ?_) ?_
          ·
            go_simp
            refine hK _ _ ?_; clear hK K
            refine wpAny_ready (rs := [0]) (by kernel_rfl) (by simp) ?_
            refine AllReady.cons rfl (fun K hK => ?_) ?_
            ·
              go_simp
              refine hK _ _ ?_; clear hK K
              refine wpAny_take (i := 1) (v := ?_) rfl (by kernel_rfl) (by kernel_rfl) (by kernel_rfl) (fun _ _ _ h => h) (Or.inl ⟨by kernel_rfl, ?_⟩) ?_
              rotate_left 1
              · (intro w; go_simp <;> with_reducible rfl)
              go_simp
              refine wpAny_take (i := 2) (v := ?_) rfl (by kernel_rfl) (by kernel_rfl) (by kernel_rfl) (fun _ _ _ h => h) (Or.inl ⟨by kernel_rfl, ?_⟩) ?_
              rotate_left 1
              · (intro w; go_simp <;> with_reducible rfl)
              go_simp
              refine wpAny_ready (rs := [3]) (by kernel_rfl) (by simp) ?_
              refine AllReady.cons rfl (fun K hK => ?_) ?_
              ·
                go_simp
                refine hK _ _ ?_; clear hK K
                refine wpAny_ready (rs := [5]) (by kernel_rfl) (by simp) ?_
                refine AllReady.cons rfl (fun K hK => ?_) ?_
                ·
                  go_simp
                  refine hK _ _ ?_; clear hK K
                  refine wpAny_take (i := 10) (v := ?_) rfl (by kernel_rfl) (by kernel_rfl) (by kernel_rfl) (fun _ _ _ h => h) (Or.inl ⟨by kernel_rfl, ?_⟩) ?_
                  rotate_left 1
                  · (intro w; go_simp <;> with_reducible rfl)
                  go_simp
                  refine wpAny_done (by kernel_rfl) ?_ _
                  gi_wp2
                  exact HFIN.out
                exact AllReady.nil
              exact AllReady.nil
            exact AllReady.nil
          exact AllReady.nil
        exact AllReady.nil
  case done =>
    rintro D ys W hDs hys ⟨M', n', hS, _, hgd⟩ hK
    subst hys
    rw [bw_length, Nat.sub_self] at hgd
    exact (good_end (hgd rfl)).elim
  case stop =>
    rintro D c pre W hDs ⟨k, hk, hpre⟩ ⟨rfl, M', n', hS, hc1, hgd⟩ hK
    subst hpre
    rw [bw_length] at hgd
    have hgood := hgd rfl
    gi_wp2
    refine ⟨by simp, .inl ⟨_, _, rfl, run_takeDeferred hK, ?_⟩⟩
    have hgr := grownBy_putObj' W D (.deferred none)
    have hsz := HSZ.out
    have hDW := (Array.getElem?_eq_some_iff.1 hK).1
    have hbw := HBW.out.size
    refine ⟨_, results_none rfl _ _ _, rfl, M', ⟨_, hgood⟩, hc1, ?_, ⟨n', hS.mp.same (hgr.block bm hS.mp.lt (fun e => by injection e with e; omega))⟩, ?_⟩
    · have := hS.blk.same (hgr.block bd hS.blk.lt (fun e => by injection e with e; omega))
      rw [hc1] at this; exact this
    · exact ((Kf.of_below HBW.out).trans hS.kf (fun x hx => .inl hx)).grown hgr (fun j e => .inr (by injection e with e; omega))
end Go.Proofs.Ytdecejhobefefaa
