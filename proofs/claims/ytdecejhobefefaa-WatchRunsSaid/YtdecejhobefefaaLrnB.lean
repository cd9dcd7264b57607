/- The contract of learn.begin. -/
import Derived.Test.YtdecejhobefefaaLrnA
import Derived.Deep.RegionWith
namespace Go.Proofs.Ytdecejhobefefaa
open Go.RowKit LitM TrailM EngM

/-- The literals of a clause, if it is there. -/
def clsL (S : Eng) (id : Int) : List Int := if thereB S id = true then (clA S.cs id.toNat).ls else []
theorem clause_u {w : World} {b : Nat} {q : Pm} {S : Eng} {d K : Nat} (h : E6 w b q S d) (hS : Sf S K) (id : Int) :
    Calls Try.prog 15 #[.pointer (some ⟨b, 0, none⟩), .int .i64 id] w fun e w' => ∃ A c, e = .returned (.tuple #[.slice A (clsL S id).length c, .bool (thereB S id)]) ∧ SlV 43 1 w' A (clsL S id).length c (lsC (clsL S id)) ∧ (∀ k, onB A k → w.heap.size ≤ k) ∧ Below w.heap.size w w' := by
  refine (eclause_any h hS id).mono fun e w' ht => ?_
  unfold clsL
  rcases ht with ⟨a, e1, rfl⟩ | ⟨a, A, c, e1, e2, e3, e4⟩
  · exact ⟨none, 0, by rw [e1, a]; rfl, by rw [a]; exact SlV.nil _ _ _ _, fun k hk => absurd hk (onB_none k), Below.refl _ _⟩
  · exact ⟨A, c, by rw [e1, a, if_pos rfl], by rw [if_pos a]; exact e2, e3, e4⟩
theorem clsL_ok {S : Eng} (hI : Inv S) (id : Int) : (∀ l ∈ clsL S id, LitM.one l = true ∧ varZ l ≤ S.n) ∧ (clsL S id).length ≤ 90000 := by
  unfold clsL
  cases ht : thereB S id with
  | false => simp
  | true =>
    have h3 : 0 ≤ id ∧ id < (S.cs.length : Int) := by
      unfold thereB at ht
      simp only [Bool.and_eq_true, decide_eq_true_eq] at ht
      exact ht.1
    obtain ⟨a, _, c, _⟩ := hI.small.cl id.toNat (by omega)
    simp only [if_true]
    exact ⟨a, c⟩
/-- The greatest level. -/
def topZ (S : Eng) (xs : List Int) : Int := xs.foldl (fun t l => max t (lvl S l)) 0
theorem topZ_snoc (S : Eng) (xs : List Int) {j : Nat} {l : Int} (h : xs[j]? = some l) : topZ S (xs.take (j + 1)) = max (topZ S (xs.take j)) (lvl S l) := by
  unfold topZ
  rw [List.take_add_one, h, List.foldl_append]; rfl
theorem topZ_fold (S : Eng) : ∀ (xs : List Int) (t : Int), t ≤ xs.foldl (fun t l => max t (lvl S l)) t ∧ (∀ l ∈ xs, lvl S l ≤ xs.foldl (fun t l => max t (lvl S l)) t) ∧ (xs.foldl (fun t l => max t (lvl S l)) t = t ∨ ∃ l ∈ xs, lvl S l = xs.foldl (fun t l => max t (lvl S l)) t)
  | [], t => ⟨Int.le_refl _, fun l hl => absurd hl List.not_mem_nil, .inl rfl⟩
  | x :: xs, t => by
    have ih := topZ_fold S xs (max t (lvl S x))
    rw [List.foldl_cons]
    obtain ⟨a, b, c⟩ := ih
    have hx : lvl S x ≤ max t (lvl S x) ∧ t ≤ max t (lvl S x) := ⟨Int.le_max_right _ _, Int.le_max_left _ _⟩
    refine ⟨by omega, fun l hl => ?_, ?_⟩
    · rcases List.mem_cons.1 hl with rfl | e
      · omega
      · exact b l e
    · rcases c with c | ⟨l, hl, e⟩
      · by_cases h : lvl S x > t
        · have hm : max t (lvl S x) = lvl S x := Int.max_eq_right (by omega)
          rw [hm] at c ⊢
          exact .inr ⟨x, by simp, c.symm⟩
        · have hm : max t (lvl S x) = t := Int.max_eq_left (by omega)
          rw [hm] at c ⊢
          exact .inl c
      · exact .inr ⟨l, List.mem_cons_of_mem _ hl, e⟩
theorem topZ_ok (S : Eng) (xs : List Int) : 0 ≤ topZ S xs ∧ (∀ l ∈ xs, lvl S l ≤ topZ S xs) ∧ (topZ S xs = 0 ∨ ∃ l ∈ xs, lvl S l = topZ S xs) := topZ_fold S xs 0
theorem lvl_bd {w : World} {b : Nat} {q : Pm} {S : Eng} {d : Nat} (h : E6 w b q S d) (hn : S.n ≤ 90000) (l : Int) : -1 ≤ lvl S l ∧ lvl S l ≤ 90000 := by
  have h2 := lev_le h.ok (varZ l)
  have h3 := h.ok.dle
  have h4 := h.ok.len
  refine ⟨?_, by unfold lvl; omega⟩
  unfold lvl levZ
  split <;> omega
/-- What begin leaves. -/
def BegTo (w : World) (b : Nat) (S : Eng) (id : Int) (e : Ending) (w' : World) : Prop :=
  ((∃ l ∈ clsL S id, valZ S.L l ≠ -1) ∧ e = .returned (.tuple #[.pointer none, .bool false]) ∧ Below w.heap.size w w') ∨
  ((∀ l ∈ clsL S id, valZ S.L l = -1) ∧ ∃ bd bm, e = .returned (.tuple #[.pointer (some ⟨bd, 0, none⟩), .bool (decide (0 < topZ S (clsL S id)))]) ∧ DrB w' b bd bm (topZ S (clsL S id)) (cntM S (topZ S (clsL S id)).toNat (addM S [] (clsL S id)) : Nat) ∧ MapZ w' S bm (clsL S id).length (addM S [] (clsL S id)) ∧ w.heap.size ≤ bd ∧ w.heap.size ≤ bm ∧ Below w.heap.size w w')
set_option maxHeartbeats 6400000 in
set_option maxRecDepth 100000 in
theorem begin_any {w : World} {b : Nat} {q : Pm} {S : Eng} {d : Nat} (h : E6 w b q S d) (hI : Inv S) (id : Int) :
    Calls Try.prog 61 #[.pointer (some ⟨b, 0, none⟩), .int .i64 id] w (BegTo w b S id) := by
  have hn := hI.small.n
  obtain ⟨hxo, hxl⟩ := clsL_ok hI id
  have HC := Lib.hid (clause_u h hI.small id)
  have HE := Lib.hid h
  have HN := Lib.hid hn
  unfold BegTo
  have hmm := @run_makeMap Try.prog
  obtain ⟨xs, hxs⟩ : ∃ xs, xs = clsL S id := ⟨_, rfl⟩
  rw [← hxs] at HC hxo hxl ⊢
  have H32 : Hid (In32 xs) := In32.of fun x hx => by have := (one_iff x).1 (hxo x hx).1; omega
  clear h hI hn hxs hxo
  obtain ⟨w0, rfl⟩ : ∃ w0 : World, w0 = w := ⟨_, rfl⟩
  go_enter Try.func61, Try.ntmps61
  go_wp2_with fail
  refine HC.out.mono ?_
  rintro e w1 ⟨A, c, rfl, hsl, hon, hb1⟩
  have HSL := Lib.hid hsl
  have HON := Lib.hid hon
  have HB1 := Lib.hid hb1
  clear hsl hon hb1 HC
  go_wp2_with fail
  obtain ⟨W2, hW2⟩ : ∃ W2, W2 = (w1.alloc (.map #[] 0)).alloc (.cells #[.pointer (some ⟨b, 0, none⟩), .map (some w1.heap.size), .int .i64 0, .int .i64 0] 124) := ⟨_, rfl⟩
  obtain ⟨bm, hbm⟩ : ∃ bm, bm = w1.heap.size := ⟨_, rfl⟩
  obtain ⟨bd, hbd⟩ : ∃ bd, bd = w1.heap.size + 1 := ⟨_, rfl⟩
  have hs1 := HB1.out.size
  have HB2 : Hid (Below w1.heap.size w1 W2) := by unfold Hid; rw [hW2]; exact ((Below.refl _ _).alloc (Nat.le_refl _) _).alloc (by simp) _
  have HE2 : Hid (E6 W2 b q S d) := (HE.out.below HB1.out).below HB2.out
  have HD2 : Hid (DrB W2 b bd bm 0 0) := by
    unfold Hid DrB
    rw [hW2, hbm, hbd]
    have := blk_new (w1.alloc (.map #[] 0)) (.cells #[.pointer (some ⟨b, 0, none⟩), .map (some w1.heap.size), .int .i64 0, .int .i64 0] 124)
    simpa using this
  have HM2 : Hid (MapZ W2 S bm 0 []) := by
    unfold Hid
    rw [hW2, hbm]
    exact (MapZ.made w1 S).same (Below.heap_alloc _ _ _ (by simp))
  have HSL2 : Hid (SlV 43 1 W2 A xs.length c (lsC xs) ∧ ∀ j, onB A j → j ≠ bd ∧ j ≠ bm) := ⟨HSL.out.below HB2.out, fun j hj => by have := HSL.out.lt j hj; omega⟩
  have HO2 : Hid (q.own bd = .no ∧ q.own bm = .no ∧ w0.heap.size ≤ bd ∧ w0.heap.size ≤ bm) := ⟨HE.out.fr bd (by omega), HE.out.fr bm (by omega), by omega, by omega⟩
  have HBW : Hid (∀ w', Kf (fun k => k = bd ∨ k = bm) W2 w' → Below w0.heap.size w0 w') := fun w' hk => (HB1.out.trans (HB2.out.mono hs1)).trans (hk.below (by have := HB2.out.size; omega) (fun x hx => by rcases hx with e | e <;> subst e <;> omega))
  rw [← hW2, ← hbd, ← hbm]
  clear hW2 hbm hbd HB2 HB1 HSL HON hs1
  go_loopw [23] (fun v wr => ∃ (j : Nat) (T : Int), v = .int .i64 (j : Int) ∧ j ≤ xs.length ∧ 0 ≤ T ∧ T ≤ 90000 ∧ Hid (T = topZ S (xs.take j)) ∧ Hid (∀ l ∈ xs.take j, valZ S.L l = -1) ∧ Hid (DrB wr b bd bm T 0) ∧ Hid (Kf (fun k => k = bd) W2 wr)) (fun v _ => xs.length - (intOf v).toNat)
  case atStart => exact ⟨0, 0, rfl, by omega, by omega, by omega, Lib.hid rfl, Lib.hid (by simp), HD2, Lib.hid (Kf.refl _ _)⟩
  case round =>
    obtain ⟨j, T, rfl, hj, hT0, hT1, hT, hall, hD, hK⟩ := hrel
    have hK2 : Hid (Kf (fun k => k = bd ∨ k = bm) W2 wr) := hK.out.mono fun x hx => .inl (.inl hx)
    have hno : ∀ k, q.own k ≠ .no → ¬ (k = bd ∨ k = bm) := fun k hk e => by rcases e with e | e <;> subst e <;> first | exact hk HO2.out.1 | exact hk HO2.out.2.1
    have HEr := Lib.hid (HE2.out.kept hK2.out hno)
    have HMr : Hid (MapZ wr S bm 0 []) := HM2.out.same (hK.out.block bm HM2.out.lt (fun e => HD2.out.ne HM2.out e.symm))
    have HSr : Hid (SlV 43 1 wr A xs.length c (lsC xs)) := HSL2.out.1.kept hK.out (fun i hi => (HSL2.out.2 i hi).1)
    by_cases hlt : j < xs.length
    · have tj : decide (j < xs.length) = true := decide_eq_true hlt
      have tj2 : decide ((j : Int) < (xs.length : Int)) = true := decide_eq_true (by omega)
      obtain ⟨g, rfl, hrow⟩ := HSr.out.row (by omega)
      have hcm : wr.cell? ⟨g, j, none⟩ = some (.int .i32 (xs.getD j 0)) := hrow.cell (show j < xs.length * 1 by omega)
      obtain ⟨l0, l1⟩ := H32.out j
      have hbd := hrow.bd
      obtain ⟨hbd1, hbd2⟩ := hbd
      have hxj : xs[j]? = some (xs.getD j 0) := by
        rw [List.getD, List.getElem?_eq_getElem (by omega)]; rfl
      have HSN : Hid (topZ S (xs.take (j + 1)) = max T (lvl S (xs.getD j 0))) := by unfold Hid; rw [topZ_snoc S xs hxj, ← hT.out]
      have HALL : Hid (valZ S.L (xs.getD j 0) = -1 → ∀ l ∈ xs.take (j + 1), valZ S.L l = -1) := fun h l hl => by
        rw [List.take_add_one, hxj] at hl
        rcases List.mem_append.1 hl with e | e
        · exact hall.out l e
        · have : l = xs.getD j 0 := by simpa using e
          rw [this]; exact h
      have HMEM : Hid (xs.getD j 0 ∈ xs) := List.mem_of_getElem? hxj
      clear hrow hxj hT hall HMr HSr
      generalize xs.getD j 0 = l at *
      have h0 := HEr.out.h0
      have HV : Hid (Calls Try.prog 17 #[.pointer (some ⟨q.bt, 0, none⟩), .int .i32 l] wr fun e w' => e = .returned (.int .i64 (valZ S.L l)) ∧ wr = w') := by
        obtain ⟨F, gm, cm, ao, co, az, cz, hQ, hO, _⟩ := HEr.out.trail
        exact tvalue_nat wr hQ hO.pre (by have := HN.out; omega) l l0 l1
      by_cases hv : valZ S.L l = -1
      · rw [hv] at HV
        have HAN := Lib.hid (HALL.out hv)
        have hlb := lvl_bd HEr.out HN.out l
        have HLv : Hid (∀ r, Calls Try.prog 64 #[.pointer (some ⟨bd, 0, none⟩), .int .i32 l] (wr.drewN r) fun e w' => e = .returned (.int .i64 (lvl S l)) ∧ ∃ r2, w' = wr.drewN r2) := fun r => by
          refine (dlevel_any (HEr.out.drewN r) (hD.out.same (w' := wr.drewN r) rfl).c0 HN.out l l0 l1).mono fun e w' ⟨h1, r2, h2⟩ => ⟨h1, r + r2, ?_⟩
          rw [h2, World.drewN_drewN]
        have c2 := hD.out.c2
        have f2 := hD.out.free 2
        have HDN : Hid (∀ (r : Nat) (t : Int), DrB ((wr.drewN r).setCell ⟨bd, 2, none⟩ (.int .i64 t)) b bd bm t 0 ∧ Kf (fun k => k = bd) W2 ((wr.drewN r).setCell ⟨bd, 2, none⟩ (.int .i64 t))) := fun r t => ⟨(hD.out.same (w' := wr.drewN r) rfl).setTop t, (hK.out.drewN r).set (.inl rfl) _⟩
        clear HALL hv hD hK hK2 HEr hno
        generalize lvl S l = z at *
        go_wp2_with fail
        refine HV.out.mono ?_
        rintro e w' ⟨rfl, rfl⟩
        go_upto_region 8 with (fail)
        obtain ⟨T2, hT2⟩ : ∃ T2, T2 = max T z := ⟨_, rfl⟩
        have HT2 : Hid (0 ≤ T2 ∧ T2 ≤ 90000) := by unfold Hid; rw [hT2]; omega
        have HEQ := Lib.hid hT2
        clear hT2
        refine wp_region_any (by kernel_rfl) ?_
        change wpAny _ _ _ _ _ _ _ (World.drew _)
        refine wpAny_take (i := 0) (v := ?_) rfl (by kernel_rfl) (by kernel_rfl) (by kernel_rfl) (fun _ _ _ h => h) (Or.inl ⟨by kernel_rfl, ?_⟩) ?_
        rotate_left 1
        · (intro w; go_simp <;> with_reducible rfl)
        go_simp
        refine wpAny_take (i := 1) (v := ?_) rfl (by kernel_rfl) (by kernel_rfl) (by kernel_rfl) (fun _ _ _ h => h) (Or.inl ⟨by kernel_rfl, ?_⟩) ?_
        rotate_left 1
        · (intro w; go_simp <;> with_reducible rfl)
        go_simp
        refine wpAny_take (i := 2) (v := ?_) rfl (by kernel_rfl) (by kernel_rfl) (by kernel_rfl) (fun _ _ _ h => h) (Or.inl ⟨by kernel_rfl, ?_⟩) ?_
        rotate_left 1
        · (intro w; go_simp <;> with_reducible rfl)
        go_simp
        refine wpAny_take (i := 3) (v := ?_) rfl (by kernel_rfl) (by kernel_rfl) (by kernel_rfl) (fun _ _ _ h => h) (Or.inl ⟨by kernel_rfl, ?_⟩) ?_
        rotate_left 1
        · (intro w; go_simp <;> with_reducible rfl)
        go_simp
        refine wpAny_take (i := 5) (v := ?_) rfl (by kernel_rfl) (by kernel_rfl) (by kernel_rfl) (fun _ _ _ h => h) (Or.inl ⟨by kernel_rfl, ?_⟩) ?_
        rotate_left 1
        · (intro w; go_simp <;> with_reducible rfl)
        go_simp
        refine wpAny_take (i := 6) (v := ?_) rfl (by kernel_rfl) (by kernel_rfl) (by kernel_rfl) (fun _ _ _ h => h) (Or.inl ⟨by kernel_rfl, ?_⟩) ?_
        rotate_left 1
        · (intro w; go_simp <;> with_reducible rfl)
        go_simp
        refine wpAny_ready (rs := [4, 7]) (by kernel_rfl) (by simp) ?_
        refine AllReady.cons rfl (fun K hK => ?_) ?_
        ·
          go_simp
          refine hK _ _ ?_; clear hK K
          refine wpAny_ready (rs := [7]) (by kernel_rfl) (by simp) ?_
          refine AllReady.cons rfl (fun K hK => ?_) ?_
          ·
            go_simp
            go_wp2_with ((go_at_call 64; refine (HLv.out 1).mono ?_; rintro e w' ⟨rfl, r2, rfl⟩))
            first | (refine hK _ _ ?_; clear hK K) | skip
            refine wpAny_ready (rs := [8]) (by kernel_rfl) (by simp) ?_
            refine AllReady.cons rfl (fun K hK => ?_) ?_
            ·
              go_simp
              refine hK _ _ ?_; clear hK K
              refine wpAny_take (i := 9) (v := ?_) rfl (by kernel_rfl) (by kernel_rfl) (by kernel_rfl) (fun _ _ _ h => h) (Or.inl ⟨by kernel_rfl, ?_⟩) ?_
              rotate_left 1
              · (intro w; go_simp <;> with_reducible rfl)
              go_simp
              refine wpAny_take (i := 10) (v := ?_) rfl (by kernel_rfl) (by kernel_rfl) (by kernel_rfl) (fun _ _ _ h => h) (Or.inl ⟨by kernel_rfl, ?_⟩) ?_
              rotate_left 1
              · (intro w; go_simp <;> with_reducible rfl)
              go_simp
              refine wpAny_ready (rs := [11]) (by kernel_rfl) (by simp) ?_
              refine AllReady.cons rfl (fun K hK => ?_) ?_
              ·
                go_simp
                refine hK _ _ ?_; clear hK K
                refine wpAny_done (by kernel_rfl) ?_ _
                rw [← HEQ.out]
                go_wp2_with fail
                go_roundw
                case rel => exact ⟨j + 1, T2, by go_num, by omega, HT2.out.1, HT2.out.2, by unfold Hid; rw [HSN.out]; exact HEQ.out, HAN, (HDN.out _ _).1, (HDN.out _ _).2⟩
                case measure => simp [intOf]; omega
              exact AllReady.nil
            exact AllReady.nil
          exact AllReady.nil
        refine AllReady.cons rfl (fun K hK => ?_) ?_
        ·
          go_simp
          go_wp2_with ((go_at_call 64; refine (HLv.out 1).mono ?_; rintro e w' ⟨rfl, r2, rfl⟩))
          first | (refine hK _ _ ?_; clear hK K) | skip
          refine wpAny_ready (rs := [4]) (by kernel_rfl) (by simp) ?_
          refine AllReady.cons rfl (fun K hK => ?_) ?_
          ·
            go_simp
            refine hK _ _ ?_; clear hK K
            refine wpAny_ready (rs := [8]) (by kernel_rfl) (by simp) ?_
            refine AllReady.cons rfl (fun K hK => ?_) ?_
            ·
              go_simp
              refine hK _ _ ?_; clear hK K
              refine wpAny_take (i := 9) (v := ?_) rfl (by kernel_rfl) (by kernel_rfl) (by kernel_rfl) (fun _ _ _ h => h) (Or.inl ⟨by kernel_rfl, ?_⟩) ?_
              rotate_left 1
              · (intro w; go_simp <;> with_reducible rfl)
              go_simp
              refine wpAny_take (i := 10) (v := ?_) rfl (by kernel_rfl) (by kernel_rfl) (by kernel_rfl) (fun _ _ _ h => h) (Or.inl ⟨by kernel_rfl, ?_⟩) ?_
              rotate_left 1
              · (intro w; go_simp <;> with_reducible rfl)
              go_simp
              refine wpAny_ready (rs := [11]) (by kernel_rfl) (by simp) ?_
              refine AllReady.cons rfl (fun K hK => ?_) ?_
              ·
                go_simp
                refine hK _ _ ?_; clear hK K
                refine wpAny_done (by kernel_rfl) ?_ _
                rw [← HEQ.out]
                go_wp2_with fail
                go_roundw
                case rel => exact ⟨j + 1, T2, by go_num, by omega, HT2.out.1, HT2.out.2, by unfold Hid; rw [HSN.out]; exact HEQ.out, HAN, (HDN.out _ _).1, (HDN.out _ _).2⟩
                case measure => simp [intOf]; omega
              exact AllReady.nil
            exact AllReady.nil
          exact AllReady.nil
        exact AllReady.nil
      · have tv : (valZ S.L l != -1) = true := by simpa using hv
        have HBX := Lib.hid (HBW.out _ hK2.out)
        have HNO : Hid (∃ l ∈ xs, valZ S.L l ≠ -1) := ⟨l, HMEM.out, hv⟩
        clear hv hD hK hK2 HEr hno
        generalize valZ S.L l = vv at *
        go_wp2_with fail
        refine HV.out.mono ?_
        rintro e w' ⟨rfl, rfl⟩
        go_wp2_with fail
        go_ret2
        exact .inl ⟨HNO.out, rfl, HBX.out⟩
    · have tj : decide (j < xs.length) = false := decide_eq_false hlt
      have tj2 : decide ((j : Int) < (xs.length : Int)) = false := decide_eq_false (by omega)
      have hfull : xs.take j = xs := List.take_of_length_le (by omega)
      rw [hfull] at hT hall
      have hTn : ((T.toNat : Nat) : Int) = T := by omega
      have HAD : Hid (Calls Try.prog 85 #[.pointer (some ⟨bd, 0, none⟩), .slice A xs.length c] wr (DAdd wr b bd bm 0 S T.toNat [] xs)) := by
        refine dadd_any HEr.out HN.out HO2.out.1 HO2.out.2.1 ?_ HMr.out HSr.out rfl H32.out HSL2.out.2 (by omega) (by omega) (by simp)
        rw [hTn]; exact hD.out
      clear hD HMr HSr HEr hno
      go_wp2_with fail
      refine HAD.out.mono ?_
      rintro e w5 ⟨rfl, hD5, hM5, hK5⟩
      rw [hTn] at hD5
      have HD5 := Lib.hid hD5
      have HM5 := Lib.hid hM5
      have HK5 : Hid (Kf (fun k => k = bd ∨ k = bm) W2 w5) := hK2.out.trans hK5 (fun x hx => .inl hx)
      have c2 : w5.drew.cell? ⟨bd, 2, none⟩ = some (.int .i64 T) := hD5.c2
      clear hD5 hM5 hK5 HAD hK2 hK
      go_wp2_with fail
      go_region
      all_goals (go_wp2_with fail; go_ret2; refine .inr ⟨hall.out, bd, bm, by rw [← hT.out]; rfl, ?_, ?_, HO2.out.2.2.1, HO2.out.2.2.2, HBW.out _ (HK5.out.drew)⟩)
      all_goals first | (rw [← hT.out]; exact HD5.out.same rfl) | (have := HM5.out.same (w' := w5.drew) rfl; rw [Nat.zero_add] at this; exact this)
end Go.Proofs.Ytdecejhobefefaa
