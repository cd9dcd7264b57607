/- The contract of an engine's fasten: a loose clause is watched, or true, or a conflict. -/
import Derived.Test.YtkckodpfhlpkgaaGreatENf
import Derived.Test.YtkckodpfhlpkgaaGreatEWatch
import Derived.Deep.QuietTactic
import Derived.BigQuiet
import Derived.Deep.RegionWith
namespace Go.Proofs.YtkckodpfhlpkgaaGreat
open Go.RowKit LitM TrailM EngM

section
variable {w : World} {b d : Nat} {q : Pm} {S : Eng}
/-- A clause's two watched ones are written. -/
theorem E6.setWt {id gc : Nat} (h : E6 w b q S d) (hi : id < S.cs.length) (hA : q.Ac = some ⟨gc, 0, none⟩) (x y : Int) :
    E6 ((w.setCell ⟨gc, id * 5 + 2, none⟩ (.int .i32 x)).setCell ⟨gc, id * 5 + 3, none⟩ (.int .i32 y)) b q (rewatch S id x y) d ∧ Ext q q w ((w.setCell ⟨gc, id * 5 + 2, none⟩ (.int .i32 x)).setCell ⟨gc, id * 5 + 3, none⟩ (.int .i32 y)) := by
  obtain ⟨g, e, hr, ho⟩ := h.clsRow hi
  rw [hA] at e
  injection e with e
  injection e with e
  subst e
  have hk : Kf (fun k => q.own k = .cls) w ((w.setCell ⟨gc, id * 5 + 2, none⟩ (.int .i32 x)).setCell ⟨gc, id * 5 + 3, none⟩ (.int .i32 y)) := ((Kf.refl _ _).set (.inl ho) _).set (.inl ho) _
  refine h.clsTo hk (cs' := (rewatch S id x y).cs) (by simp [rewatch]) (fun i => ?_) ?_
  · unfold rewatch
    rw [clA_set hi]
    by_cases e : i = id
    · rw [if_pos e, e]
    · rw [if_neg e]
  · rw [hA]
    refine .inr ⟨gc, rfl, ((hr.set (show id * 5 + 2 < S.cs.length * 5 by omega) _).set (show id * 5 + 3 < S.cs.length * 5 by omega) _).congr fun j hj => ?_⟩
    unfold rewatch
    refine clC_set hi (c := { clA S.cs id with w0 := x, w1 := y }) rfl ?_ ?_ ?_ ?_ ?_ ?_ j
    · rw [updV_ne _ _ (by omega), updV_ne _ _ (by omega), clC0]
    · rw [updV_ne _ _ (by omega), updV_ne _ _ (by omega)]
    · rw [updV_ne _ _ (by omega), updV_at]
    · rw [updV_at]
    · rw [updV_ne _ _ (by omega), updV_ne _ _ (by omega), clC4]
    · intro j hj
      rw [updV_ne _ _ (by omega), updV_ne _ _ (by omega)]
theorem plc_lt {l : Int} {n k : Nat} (h : one l = true ∧ varZ l ≤ n) (hk : 2 * (n + 1) ≤ k) : plc l < k := by
  have h1 := (one_iff l).1 h.1
  unfold plc
  rcases h1 with ⟨a, b⟩ | ⟨a, b⟩
  · have := varZ_pos a b
    rw [placeZ_pos a b]; omega
  · have := varZ_neg a b
    rw [placeZ_neg a b]; omega
end
theorem val_zero {n d : Nat} {L : List Ent} (hO : Pre n d L) : valZ L 0 = 0 := by
  unfold valZ
  rw [show varZ 0 = 0 from by decide, hO.out (.inl (by omega))]
theorem err_zero (n : Nat) (L : List Ent) : errZ n L 0 = 41 := by
  unfold errZ
  rw [if_pos (.inl (by decide))]
/-- What fasten leaves. -/
def FastTo (w : World) (b : Nat) (q : Pm) (S : Eng) (d id : Nat) (e : Ending) (w' : World) : Prop :=
  e = .returned (.bool (fastF S id).2) ∧ ∃ q', E6 w' b q' (fastF S id).1 d ∧ Ext q q' w w' ∧ q'.Al = q.Al ∧ q'.cl = q.cl
set_option maxHeartbeats 6400000 in
set_option maxRecDepth 100000 in
theorem fasten_any {w : World} {b : Nat} {q : Pm} {S : Eng} {d K : Nat} (h : E6 w b q S d) (hS : Sf S K) (hd : d = S.le.length) (hK : K ≤ 80000) (hwa : 2 * (S.n + 1) ≤ S.wa.length) {id : Nat} (hi : id < S.cs.length) :
    Calls Tryz.prog 73 #[.pointer (some ⟨b, 0, none⟩), .int .i64 (id : Int)] w (FastTo w b q S d id) := by
  obtain ⟨gc, hA, hrow, _⟩ := h.clsRow hi
  have hcw := hrow.bd
  obtain ⟨hcw1, hcw2⟩ := hcw
  obtain ⟨hls, hnx, hll, _, _⟩ := hS.cl id hi
  have hn := hS.n
  obtain ⟨c0, c1, c2, c3, c4, cf⟩ := h.clCells hi hA
  have h0 := h.h0
  have h1 := h.h1
  rw [hA] at h1
  have HE := Lib.hid h
  have HN := Lib.hid (notFalse_any h hi hls hll hn)
  have HO := Lib.hid h.ok
  have f2 := cf (id * 5 + 2)
  have f3 := cf (id * 5 + 3)
  cases hp : (clA S.cs id).pr with
  | false =>
    have HR : Hid (fastF S id = (S, true)) := by unfold Hid fastF; rw [if_pos hp]
    rw [hp] at c0
    unfold FastTo
    rw [HR.out]
    clear h hrow hS HN
    generalize S.cs.length = nc at *
    go_enter Tryz.func73, Tryz.ntmps73
    go_wp2_with fail
    go_ret
    exact ⟨rfl, q, HE.out, Ext.refl _ _, rfl, rfl⟩
  | true =>
    rw [hp] at c0
    have HR : Hid (fastF S id = match nf S.L (clA S.cs id).ls with
      | [] => (S, false)
      | [f] => (dueF (trySet S f id) id (levZ (trySet S f id).L (varZ f)), true)
      | f :: s :: _ => (watchF (watchF { S with cs := S.cs.set id { clA S.cs id with w0 := f, w1 := s } } id f) id s, true)) := by unfold Hid fastF; rw [if_neg (by rw [hp]; simp)]; rfl
    have hnf : ∀ x ∈ nf S.L (clA S.cs id).ls, x ∈ (clA S.cs id).ls ∧ valZ S.L x ≠ -1 := fun x hx => by
      unfold nf at hx
      have := List.mem_filter.1 hx
      exact ⟨this.1, by simpa using this.2⟩
    cases hf : nf S.L (clA S.cs id).ls with
    | nil =>
      rw [hf] at HR HN
      have HV : Hid (Calls Tryz.prog 36 #[.pointer (some ⟨q.bt, 0, none⟩), .int .i32 0] w fun e w' => e = .returned (.int .i64 0) ∧ w = w') := by
        obtain ⟨F, gm, cm, ao, co, az, cz, hQ, hO, _⟩ := h.trail
        have := tvalue_nat w hQ hO.pre (by omega) 0 (by omega) (by omega)
        rw [val_zero hO.pre] at this
        exact this
      have HT : Hid (Calls Tryz.prog 88 #[.pointer (some ⟨q.bt, 0, none⟩), .int .i32 0, .int .i64 (id : Int)] w fun e w' => e = .returned (.int .i64 41) ∧ w = w') := by
        obtain ⟨F, hT⟩ := h.trail
        have := set_no w hT (by omega) 0 (id : Int) (by omega) (by omega) (by rw [err_zero]; omega)
        rw [err_zero] at this
        exact this
      unfold FastTo
      rw [HR.out]
      clear h hrow hS hnf hls
      rw [show ([] : List Int).getD 0 0 = 0 from rfl, show ([] : List Int).getD 1 0 = 0 from rfl] at HN
      generalize S.cs.length = nc at *
      go_enter Tryz.func73, Tryz.ntmps73
      go_wp2_with ((go_at_call 86; refine HN.out.mono ?_; rintro e w' ⟨rfl, rfl⟩))
      refine HV.out.mono ?_
      rintro e w' ⟨rfl, rfl⟩
      go_wp2_with fail
      refine HT.out.mono ?_
      rintro e w' ⟨rfl, rfl⟩
      go_wp2_with fail
      go_ret
      exact ⟨rfl, q, HE.out, Ext.refl _ _, rfl, rfl⟩
    | cons f t =>
      cases t with
      | nil =>
        obtain ⟨m1, v1⟩ := hnf f (by rw [hf]; simp)
        have o1 := hls f m1
        have b1 := (one_iff _).1 o1.1
        have b2 := varZ_ge o1.1
        have hv01 : valZ S.L f = 0 ∨ valZ S.L f = 1 := by
          unfold valZ at v1 ⊢
          split at v1 <;> simp_all
        rw [hf] at HR HN
        rw [show ([f] : List Int).getD 0 0 = f from rfl, show ([f] : List Int).getD 1 0 = 0 from rfl] at HN
        unfold FastTo
        rw [HR.out]
        have HV : Hid (Calls Tryz.prog 36 #[.pointer (some ⟨q.bt, 0, none⟩), .int .i32 f] w fun e w' => e = .returned (.int .i64 (valZ S.L f)) ∧ w = w') := by
          obtain ⟨F, gm, cm, ao, co, az, cz, hQ, hO, _⟩ := h.trail
          exact tvalue_nat w hQ hO.pre (by omega) f (by omega) (by omega)
        rcases hv01 with hv | hv
        · obtain ⟨F, hT, hF⟩ := h.tr
          have hfn : findE S.L (varZ f) = none := by
            unfold valZ at hv
            split at hv
            · split at hv <;> omega
            · assumption
          have he : errZ S.n S.L f = 0 := by
            unfold errZ
            rw [if_neg (by simp only [o1.1]; rintro (e | e); cases e; omega), if_neg (by rw [hfn]; simp)]
          have HT : Hid (Calls Tryz.prog 88 #[.pointer (some ⟨q.bt, 0, none⟩), .int .i32 f, .int .i64 (id : Int)] w fun e w' => e = .returned (.int .i64 0) ∧ TrailTo F w w' q.bt S.n d (S.L ++ [⟨f, d, id⟩])) := set_yes w hT (by omega) f (id : Int) (by omega) (by omega) he
          have HTT : Hid (∀ w2, TrailTo F w w2 q.bt S.n d (S.L ++ [⟨f, d, id⟩]) → ∃ q2 S2, S2 = trySet S f id ∧ E6 w2 b q2 S2 d ∧ Ext q q2 w w2 ∧ q2.bt = q.bt ∧ q2.Al = q.Al ∧ q2.cl = q.cl ∧ S2.le = S.le ∧ S2.n = S.n ∧ levZ S2.L (varZ f) = (d : Int)) := fun w2 ht => by
            obtain ⟨own', e1, e2⟩ := h.trailTo hF ht
            refine ⟨_, _, rfl, ?_, e2, rfl, rfl, rfl, ?_, ?_, ?_⟩
            · unfold trySet setF
              rw [if_pos hv, ← hd]; exact e1
            · unfold trySet setF; rw [if_pos hv]
            · unfold trySet setF; rw [if_pos hv]
            · unfold trySet setF
              rw [if_pos hv]
              show levZ (S.L ++ [⟨f, S.le.length, id⟩]) (varZ f) = _
              unfold levZ
              rw [find_snoc _ _ hfn, if_pos rfl, ← hd]
          rw [hv] at HV
          clear hrow hT h hF hfn he v1 hv
          generalize hnc : S.cs.length = nc at *
          go_enter Tryz.func73, Tryz.ntmps73
          go_wp2_with ((go_at_call 86; refine HN.out.mono ?_; rintro e w' ⟨rfl, rfl⟩))
          refine HV.out.mono ?_
          rintro e w' ⟨rfl, rfl⟩
          go_wp2_with fail
          refine HT.out.mono ?_
          rintro e w2 ⟨rfl, ht⟩
          obtain ⟨q2, S2, hS2, e1, e2, ebt, eal, ecl, hle, hsn, elv⟩ := HTT.out w2 ht
          have HS2 := Lib.hid hS2
          have HE2 := Lib.hid e1
          have HX2 := Lib.hid e2
          have HAL : Hid (q2.Al = q.Al ∧ q2.cl = q.cl) := ⟨eal, ecl⟩
          obtain ⟨lv, hlv⟩ : ∃ lv : Nat, lv = d := ⟨d, rfl⟩
          have hld : lv ≤ S.le.length := by omega
          rw [← hlv] at elv
          have HLV := Lib.hid elv
          have HBT := Lib.hid ebt
          clear hd hlv HTT HT HN HV ht e1 e2 ebt elv eal ecl hS2 HR c0 c1 c2 c3 c4 cf f2 f3 h0 h1 HE HO hf
          go_wp2_with fail
          -- behind the Set: w2, q2, S2
          have HVq : Hid (∀ W : World, Calls Tryz.prog 28 #[.int .i32 f] W fun e w' => e = .returned (.int .i64 (varZ f)) ∧ w' = W) := fun W => (var_any f W (by omega) (by omega)).mono fun e w' ⟨h1, h2⟩ => ⟨h1, h2.symm⟩
          have HLv : Hid (∀ r, Calls Tryz.prog 89 #[.pointer (some ⟨q2.bt, 0, none⟩), .int .i64 (varZ f)] (w2.drewN r) fun e w' => e = .returned (.int .i64 (lv : Int)) ∧ w' = w2.drewN r) := fun r => by
            obtain ⟨F, gm, cm, ao, co, az, cz, hQ, hO, _⟩ := (HE2.out.drewN r).trail
            have := tlevel_nat (w2.drewN r) hQ hO.pre (by have := hn; show S2.n ≤ 300000; rw [hsn]; omega) (varZ f)
            rw [HLV.out] at this
            exact this.mono fun e w' ⟨h1, h2⟩ => ⟨h1, h2.symm⟩
          have g0 : w2.cell? ⟨b, 0, none⟩ = some (.pointer (some ⟨q2.bt, 0, none⟩)) := HE2.out.h0
          have HLE : Hid (S2.le = S.le) := hle
          clear hle
          go_quiet (first | (go_at_call 28; exact Calls.quiet_of_same (HVq.out _)) | (go_at_call 89; exact Calls.quiet_of_same (HLv.out _)))
          have HE3 := Lib.hid (HE2.out.drewN nq)
          have HX3 := Lib.hid (show Ext q q2 w (w2.drewN nq) from ⟨HX2.out.old, HX2.out.kf.drewN nq, HX2.out.bt⟩)
          clear HE2 HX2 HVq HLv g0
          generalize w2.drewN nq = W3 at *
          by_cases hl0 : lv = 0
          · subst hl0
            have HD : Hid (dueF (trySet S f id) id (levZ (trySet S f id).L (varZ f)) = S2) := by unfold Hid; rw [← HS2.out, HLV.out]; rfl
            have t0 : decide ((0 : Int) < ((0 : Nat) : Int)) = false := by decide
            as_aux_lemma =>
            go_wp2_with fail
            go_ret
            refine ⟨rfl, q2, ?_, HX3.out, HAL.out⟩
            rw [HD.out]; exact HE3.out
          · obtain ⟨k, hk⟩ : ∃ k, lv = k + 1 := ⟨lv - 1, by omega⟩
            subst hk
            have hkl : k < S2.le.length := by rw [HLE.out]; omega
            have HD : Hid (dueF (trySet S f id) id (levZ (trySet S f id).L (varZ f)) = { S2 with le := S2.le.set k ((leA S2.le k).1, (leA S2.le k).2 ++ [id]) }) := by
              unfold Hid dueF
              rw [← HS2.out, HLV.out, if_pos (by omega), show (((k + 1 : Nat) : Int)).toNat - 1 = k from by omega]
            have t0 : decide ((0 : Int) < (k : Int) + 1) = true := decide_eq_true (by omega)
            rw [show ((k + 1 : Nat) : Int) = (k : Int) + 1 from by omega]
            obtain ⟨ge, hAe, her⟩ := HE3.out.le.1.row (by omega)
            have oge : q2.own ge = .lrow := HE3.out.le.2 ge (by rw [hAe, onB_some])
            have hce := her.bd
            obtain ⟨hce1, hce2⟩ := hce
            have g5 : W3.cell? ⟨b, 5, none⟩ = some (.slice (some ⟨ge, 0, none⟩) S2.le.length q2.ce) := by have := HE3.out.h5; rw [hAe] at this; exact this
            have gk : W3.cell? ⟨ge, k * 2 + 1, none⟩ = some (.slice (q2.Le k).1 (leA S2.le k).2.length (q2.Le k).2) := by
              have := her.cell (show k * 2 + 1 < S2.le.length * 2 by omega)
              rw [leC1] at this; exact this
            have hbn : (leA S2.le k).2.length ≤ 90000 := by have := hS.en k (by rw [← HLE.out]; exact hkl); rw [HLE.out]; omega
            have HS3 : Hid (SlV 3 1 (W3.alloc (.cells #[.int .i64 (id : Int)] 3)) (q2.Le k).1 (leA S2.le k).2.length (q2.Le k).2 (natC (leA S2.le k).2)) := SlV.alloc (HE3.out.lb k hkl).1 _
            have HB3 : Hid (Below W3.heap.size W3 (W3.alloc (.cells #[.int .i64 (id : Int)] 3))) := (Below.refl _ _).alloc (Nat.le_refl _) _
            have HF : Hid (∀ g' c' w5, RowV 3 1 w5 g' ((leA S2.le k).2.length + 1) c' (appV (natC (leA S2.le k).2) ((leA S2.le k).2.length * 1) [.int .i64 (id : Int)]) → (onB (q2.Le k).1 g' ∨ (W3.alloc (.cells #[.int .i64 (id : Int)] 3)).heap.size ≤ g') → Kf (fun x => onB (q2.Le k).1 x) (W3.alloc (.cells #[.int .i64 (id : Int)] 3)) w5 →
                w5.cell? ⟨ge, k * 2 + 1, none⟩ = some (.slice (q2.Le k).1 (leA S2.le k).2.length (q2.Le k).2) ∧ w5.frozen? ⟨ge, k * 2 + 1, none⟩ = false ∧
                ∃ q', E6 (w5.setCell ⟨ge, k * 2 + 1, none⟩ (.slice (some ⟨g', 0, none⟩) ((leA S2.le k).2.length + 1) c')) b q' { S2 with le := S2.le.set k ((leA S2.le k).1, (leA S2.le k).2 ++ [id]) } d ∧ Ext q q' w (w5.setCell ⟨ge, k * 2 + 1, none⟩ (.slice (some ⟨g', 0, none⟩) ((leA S2.le k).2.length + 1) c')) ∧ q'.Al = q.Al ∧ q'.cl = q.cl) := fun g' c' w5 hr hg hk' => by
              obtain ⟨own', e1, e2⟩ := HE3.out.pushE hkl hAe HB3.out (hr.congr fun j hj => by rw [natC_snoc _ _ _ (by omega), Nat.mul_one]) hg hk'
              have hlt : ge < W3.heap.size := her.lt
              have hb5 : w5.heap[ge]? = W3.heap[ge]? := (hk'.block ge (by simp; omega) (fun e => by have := (HE3.out.lb k hkl).2 ge e; rw [oge] at this; cases this)).trans (Below.heap_alloc _ _ _ hlt)
              refine ⟨(World.cell?_of_block (a := ⟨ge, k * 2 + 1, none⟩) hb5).trans gk, ?_, _, e1, HX3.out.trans e2, HAL.out⟩
              rw [World.frozen?_of_block (a := ⟨ge, k * 2 + 1, none⟩) hb5]; exact her.free _
            clear her hAe HAL HX3 hS hls hnf hnx hll
            generalize hle2 : (leA S2.le k).2 = lk at *
            generalize (q2.Le k).1 = Ak at *
            generalize (q2.Le k).2 = ck at *
            generalize S2.le.length = ne at *
            as_aux_lemma =>
            go_wp2_with (at_builtin; refine wpList_append_sl _ rfl _ _ 37 3 rfl Tryz.underlying37 info_tint rfl (by decide) (by decide) Ak lk.length ck (natC lk) rfl HS3.out (by omega) ⟨W3.heap.size, 0, none⟩ 1 1 [.int .i64 (id : Int)] rfl rfl (box_news W3 3 [.int .i64 (id : Int)]) (by intro u hu; simp at hu; subst hu; rfl) (by decide) (by decide) ?_)
            intro g' c' w5 hr hg hk'
            obtain ⟨x1, x2, q', x3, x4, x5⟩ := HF.out g' c' w5 (by rw [Nat.mul_one]; exact hr) (by simpa using hg) (hk' _ (fun j hj => hj))
            have HX := Lib.hid (show _ ∧ _ ∧ _ from ⟨x3, x4, x5⟩)
            clear hr hg hk' x3 x4 x5
            go_wp2_with fail
            go_ret
            refine ⟨rfl, q', ?_, HX.out.2.1, HX.out.2.2⟩
            rw [HD.out]; exact HX.out.1
        · obtain ⟨x, hx⟩ : ∃ x, findE S.L (varZ f) = some x := by
            unfold valZ at hv
            split at hv
            · rename_i x hx; exact ⟨x, hx⟩
            · omega
          have hlx := (HO.out.pre.at_ hx).2.2.2.2
          have elv : levZ S.L (varZ f) = (x.lv : Int) := by unfold levZ; rw [hx]
          obtain ⟨S2, hS2⟩ : ∃ S2, S2 = trySet S f id := ⟨_, rfl⟩
          have hS3 : S2 = S := by rw [hS2]; unfold trySet; rw [if_neg (by omega)]
          have HS2 := Lib.hid hS2
          rw [hv] at HV
          clear hrow
          generalize hnc : S.cs.length = nc at *
          go_enter Tryz.func73, Tryz.ntmps73
          go_wp2_with ((go_at_call 86; refine HN.out.mono ?_; rintro e w' ⟨rfl, rfl⟩))
          refine HV.out.mono ?_
          rintro e w2 ⟨rfl, rfl⟩
          go_upto_region 12 with (fail)
          obtain ⟨w2, rfl⟩ : ∃ w2 : World, w2 = w := ⟨_, rfl⟩
          obtain ⟨q2, rfl⟩ : ∃ q2 : Pm, q2 = q := ⟨_, rfl⟩
          rw [← hS3] at elv
          have HE2 : Hid (E6 w2 b q2 S2 d) := by rw [hS3]; exact HE.out
          have HX2 := Lib.hid (Ext.refl q2 w2)
          obtain ⟨lv, hlv⟩ : ∃ lv : Nat, lv = x.lv := ⟨_, rfl⟩
          have hld : lv ≤ S.le.length := by omega
          rw [← hlv] at elv
          have HLV := Lib.hid elv
          have hle : S2.le = S.le := by rw [hS3]
          have hsn : S2.n = S.n := by rw [hS3]
          have HBT : Hid (q2.bt = q2.bt) := rfl
          clear hd hlv HN HV elv hS2 HR c0 c1 c2 c3 c4 cf f2 f3 h0 h1 HE HO hf hS3 hv
          -- behind the Set: w2, q2, S2
          have HVq : Hid (∀ W : World, Calls Tryz.prog 28 #[.int .i32 f] W fun e w' => e = .returned (.int .i64 (varZ f)) ∧ w' = W) := fun W => (var_any f W (by omega) (by omega)).mono fun e w' ⟨h1, h2⟩ => ⟨h1, h2.symm⟩
          have HLv : Hid (∀ r, Calls Tryz.prog 89 #[.pointer (some ⟨q2.bt, 0, none⟩), .int .i64 (varZ f)] (w2.drewN r) fun e w' => e = .returned (.int .i64 (lv : Int)) ∧ w' = w2.drewN r) := fun r => by
            obtain ⟨F, gm, cm, ao, co, az, cz, hQ, hO, _⟩ := (HE2.out.drewN r).trail
            have := tlevel_nat (w2.drewN r) hQ hO.pre (by have := hn; show S2.n ≤ 300000; rw [hsn]; omega) (varZ f)
            rw [HLV.out] at this
            exact this.mono fun e w' ⟨h1, h2⟩ => ⟨h1, h2.symm⟩
          have g0 : w2.cell? ⟨b, 0, none⟩ = some (.pointer (some ⟨q2.bt, 0, none⟩)) := HE2.out.h0
          have HLE : Hid (S2.le = S.le) := hle
          clear hle
          go_quiet (first | (go_at_call 28; exact Calls.quiet_of_same (HVq.out _)) | (go_at_call 89; exact Calls.quiet_of_same (HLv.out _)))
          have HE3 := Lib.hid (HE2.out.drewN nq)
          have HX3 := Lib.hid (show Ext q2 q2 w2 (w2.drewN nq) from ⟨HX2.out.old, HX2.out.kf.drewN nq, HX2.out.bt⟩)
          clear HE2 HX2 HVq HLv g0
          generalize w2.drewN nq = W3 at *
          by_cases hl0 : lv = 0
          · subst hl0
            have HD : Hid (dueF (trySet S f id) id (levZ (trySet S f id).L (varZ f)) = S2) := by unfold Hid; rw [← HS2.out, HLV.out]; rfl
            have t0 : decide ((0 : Int) < ((0 : Nat) : Int)) = false := by decide
            as_aux_lemma =>
            go_wp2_with fail
            go_ret
            refine ⟨rfl, q2, ?_, HX3.out, ⟨rfl, rfl⟩⟩
            rw [HD.out]; exact HE3.out
          · obtain ⟨k, hk⟩ : ∃ k, lv = k + 1 := ⟨lv - 1, by omega⟩
            subst hk
            have hkl : k < S2.le.length := by rw [HLE.out]; omega
            have HD : Hid (dueF (trySet S f id) id (levZ (trySet S f id).L (varZ f)) = { S2 with le := S2.le.set k ((leA S2.le k).1, (leA S2.le k).2 ++ [id]) }) := by
              unfold Hid dueF
              rw [← HS2.out, HLV.out, if_pos (by omega), show (((k + 1 : Nat) : Int)).toNat - 1 = k from by omega]
            have t0 : decide ((0 : Int) < (k : Int) + 1) = true := decide_eq_true (by omega)
            rw [show ((k + 1 : Nat) : Int) = (k : Int) + 1 from by omega]
            obtain ⟨ge, hAe, her⟩ := HE3.out.le.1.row (by omega)
            have oge : q2.own ge = .lrow := HE3.out.le.2 ge (by rw [hAe, onB_some])
            have hce := her.bd
            obtain ⟨hce1, hce2⟩ := hce
            have g5 : W3.cell? ⟨b, 5, none⟩ = some (.slice (some ⟨ge, 0, none⟩) S2.le.length q2.ce) := by have := HE3.out.h5; rw [hAe] at this; exact this
            have gk : W3.cell? ⟨ge, k * 2 + 1, none⟩ = some (.slice (q2.Le k).1 (leA S2.le k).2.length (q2.Le k).2) := by
              have := her.cell (show k * 2 + 1 < S2.le.length * 2 by omega)
              rw [leC1] at this; exact this
            have hbn : (leA S2.le k).2.length ≤ 90000 := by have := hS.en k (by rw [← HLE.out]; exact hkl); rw [HLE.out]; omega
            have HS3 : Hid (SlV 3 1 (W3.alloc (.cells #[.int .i64 (id : Int)] 3)) (q2.Le k).1 (leA S2.le k).2.length (q2.Le k).2 (natC (leA S2.le k).2)) := SlV.alloc (HE3.out.lb k hkl).1 _
            have HB3 : Hid (Below W3.heap.size W3 (W3.alloc (.cells #[.int .i64 (id : Int)] 3))) := (Below.refl _ _).alloc (Nat.le_refl _) _
            have HF : Hid (∀ g' c' w5, RowV 3 1 w5 g' ((leA S2.le k).2.length + 1) c' (appV (natC (leA S2.le k).2) ((leA S2.le k).2.length * 1) [.int .i64 (id : Int)]) → (onB (q2.Le k).1 g' ∨ (W3.alloc (.cells #[.int .i64 (id : Int)] 3)).heap.size ≤ g') → Kf (fun x => onB (q2.Le k).1 x) (W3.alloc (.cells #[.int .i64 (id : Int)] 3)) w5 →
                w5.cell? ⟨ge, k * 2 + 1, none⟩ = some (.slice (q2.Le k).1 (leA S2.le k).2.length (q2.Le k).2) ∧ w5.frozen? ⟨ge, k * 2 + 1, none⟩ = false ∧
                ∃ q', E6 (w5.setCell ⟨ge, k * 2 + 1, none⟩ (.slice (some ⟨g', 0, none⟩) ((leA S2.le k).2.length + 1) c')) b q' { S2 with le := S2.le.set k ((leA S2.le k).1, (leA S2.le k).2 ++ [id]) } d ∧ Ext q2 q' w2 (w5.setCell ⟨ge, k * 2 + 1, none⟩ (.slice (some ⟨g', 0, none⟩) ((leA S2.le k).2.length + 1) c')) ∧ q'.Al = q2.Al ∧ q'.cl = q2.cl) := fun g' c' w5 hr hg hk' => by
              obtain ⟨own', e1, e2⟩ := HE3.out.pushE hkl hAe HB3.out (hr.congr fun j hj => by rw [natC_snoc _ _ _ (by omega), Nat.mul_one]) hg hk'
              have hlt : ge < W3.heap.size := her.lt
              have hb5 : w5.heap[ge]? = W3.heap[ge]? := (hk'.block ge (by simp; omega) (fun e => by have := (HE3.out.lb k hkl).2 ge e; rw [oge] at this; cases this)).trans (Below.heap_alloc _ _ _ hlt)
              refine ⟨(World.cell?_of_block (a := ⟨ge, k * 2 + 1, none⟩) hb5).trans gk, ?_, _, e1, HX3.out.trans e2, ⟨rfl, rfl⟩⟩
              rw [World.frozen?_of_block (a := ⟨ge, k * 2 + 1, none⟩) hb5]; exact her.free _
            clear her hAe HX3 hS hls hnf hnx hll
            generalize hle2 : (leA S2.le k).2 = lk at *
            generalize (q2.Le k).1 = Ak at *
            generalize (q2.Le k).2 = ck at *
            generalize S2.le.length = ne at *
            as_aux_lemma =>
            go_wp2_with (at_builtin; refine wpList_append_sl _ rfl _ _ 37 3 rfl Tryz.underlying37 info_tint rfl (by decide) (by decide) Ak lk.length ck (natC lk) rfl HS3.out (by omega) ⟨W3.heap.size, 0, none⟩ 1 1 [.int .i64 (id : Int)] rfl rfl (box_news W3 3 [.int .i64 (id : Int)]) (by intro u hu; simp at hu; subst hu; rfl) (by decide) (by decide) ?_)
            intro g' c' w5 hr hg hk'
            obtain ⟨x1, x2, q', x3, x4, x5⟩ := HF.out g' c' w5 (by rw [Nat.mul_one]; exact hr) (by simpa using hg) (hk' _ (fun j hj => hj))
            have HX := Lib.hid (show _ ∧ _ ∧ _ from ⟨x3, x4, x5⟩)
            clear hr hg hk' x3 x4 x5
            go_wp2_with fail
            go_ret
            refine ⟨rfl, q', ?_, HX.out.2.1, HX.out.2.2⟩
            rw [HD.out]; exact HX.out.1
      | cons s t =>
        obtain ⟨m1, v1⟩ := hnf f (by rw [hf]; simp)
        obtain ⟨m2, v2⟩ := hnf s (by rw [hf]; simp)
        have o1 := hls f m1
        have o2 := hls s m2
        have b1 := (one_iff _).1 o1.1
        have b2 := (one_iff _).1 o2.1
        rw [hf] at HR HN
        rw [show (f :: s :: t).getD 0 0 = f from rfl, show (f :: s :: t).getD 1 0 = s from rfl] at HN
        unfold FastTo
        rw [HR.out]
        have ts : (s != 0) = true := by have : s ≠ 0 := by omega
                                        simpa using this
        have HP1 : Hid (plc f < (rewatch S id f s).wa.length) := plc_lt o1 hwa
        have HP2 : Hid (plc s < (watchF (rewatch S id f s) id f).wa.length) := by unfold Hid watchF rewatch; rw [List.length_set]; exact plc_lt o2 hwa
        have HL1 : Hid ((waA (rewatch S id f s).wa (plc f)).length ≤ 90000) := by have := hS.wn _ (plc_lt o1 hwa); unfold Hid; show (waA S.wa (plc f)).length ≤ 90000; omega
        have HL2 : Hid ((waA (watchF (rewatch S id f s) id f).wa (plc s)).length ≤ 90000) := by
          unfold Hid watchF rewatch
          simp only
          rw [waA_set (plc_lt o1 hwa)]
          have := hS.wn _ (plc_lt o1 hwa)
          split
          · rw [List.length_append]; simp only [List.length_singleton]; omega
          · have := hS.wn (plc s) (plc_lt o2 hwa); omega
        have HS1 := Lib.hid (h.setWt hi hA f s)
        clear h hrow hS hnf hls
        generalize hnc : S.cs.length = nc at *
        go_enter Tryz.func73, Tryz.ntmps73
        go_wp2_with ((go_at_call 86; refine HN.out.mono ?_; rintro e w' ⟨rfl, rfl⟩))
        refine (ewatch_any HS1.out.1 id f (by omega) (by omega) HP1.out HL1.out).mono ?_
        rintro e w2 ⟨rfl, own2, X2, hE2, hX2⟩
        have HE2 := Lib.hid hE2
        have HX2 := Lib.hid (HS1.out.2.trans hX2)
        clear hE2 hX2 HS1
        go_wp2_with fail
        refine (ewatch_any HE2.out id s (by omega) (by omega) HP2.out HL2.out).mono ?_
        rintro e w3 ⟨rfl, own3, X3, hE3, hX3⟩
        have HE3 := Lib.hid hE3
        have HX3 := Lib.hid (HX2.out.trans hX3)
        clear hE3 hX3 HE2 HX2
        go_wp2_with fail
        go_ret
        exact ⟨rfl, _, HE3.out, HX3.out, rfl, rfl⟩
end Go.Proofs.YtkckodpfhlpkgaaGreat
