/- The contracts of a Rank's Bump and Halve. -/
import Derived.Test.YtffpggdbmfidcaaNewR
import Derived.Deep.RegionWith
namespace Go.Proofs.Ytffpggdbmfidcaa
open Go.RowKit HeapM

section
variable {b gs cs gp cp go co n m : Nat} {sc pl : Nat → Int} {od : Nat → Nat}

/-- A score that is by more. -/
def moreS (x y : Int) : Int := min (x + y) 1152921504606846976
theorem moreS_bd {x y : Int} (h0 : 0 ≤ x) (hy : 0 ≤ y) (h1 : x ≤ 1152921504606846976) : x ≤ moreS x y ∧ moreS x y ≤ 1152921504606846976 := by unfold moreS; omega

theorem like_of {wt : Nat → Bool} {pl' : Nat → Int} (h : ∀ v, 1 ≤ v → v ≤ n → (wt v = true ↔ pl v ≠ -1)) (hs : SameW n pl pl') : ∀ v, 1 ≤ v → v ≤ n → (wt v = true ↔ pl' v ≠ -1) := fun v h1 h2 => by
  rw [h v h1 h2, Ne, Ne, hs v h1 h2]

set_option maxHeartbeats 6400000 in
set_option maxRecDepth 100000 in
theorem bump_wait (w : World) (h : QAt w b gs cs gp cp go co n m sc pl od) (hI : Inv n m pl od) (hH : Hp sc od 0 m) (hn : n ≤ 1000) (v : Nat) (y : Int) (h1 : 1 ≤ v) (h2 : v ≤ n) (hy0 : 0 ≤ y) (hy1 : y ≤ 1152921504606846976) (hx0 : 0 ≤ sc v) (hx1 : sc v ≤ 1152921504606846976) (hp : pl v ≠ -1) :
    Calls Try.prog 10 #[.pointer (some ⟨b, 0, none⟩), .int .i64 v, .int .i64 y] w fun e w' => e = .returned (.int .i64 0) ∧ UpPost b gs cs gp cp go co n m (upd sc v (moreS (sc v) y)) pl w (.returned (.tuple #[])) w' := by
  have HB := Lib.hid (moreS_bd hx0 hy0 hx1)
  have c0 := h.h0
  have cv := h.scs.cell (show v < n + 1 by omega)
  have fv := h.scs.free v
  have HH := Lib.hid (has_nat w h hn (v : Int))
  rw [(inB_iff n (v : Int)).2 ⟨by omega, by omega⟩] at HH
  have hq1 := h.setS (show v < n + 1 by omega) (moreS (sc v) y)
  have HQ1 : Hid (QAt (w.setCell ⟨gs, v, none⟩ (.int .i64 (moreS (sc v) y))).drew b gs cs gp cp go co n m (upd sc v (moreS (sc v) y)) pl od) := hq1.drewN 1
  have HK1 : Hid (Kf (Foot b gs gp go) w (w.setCell ⟨gs, v, none⟩ (.int .i64 (moreS (sc v) y))).drew) := ((Kf.refl _ _).set (.inl (.inr (.inl rfl))) _).drew
  obtain ⟨i, him, hpi, hoi⟩ := (hI.bwd v h1 h2).resolve_left hp
  have hub := Up.bump hI hH him (x := moreS (sc v) y) (by rw [hoi]; exact HB.out.1)
  rw [hoi] at hub
  have HI := Lib.hid hI
  have HU := Lib.hid hub
  have HP := Lib.hid hpi
  have ta : (y < 0) = False := by simp; omega
  have tb : decide (1152921504606846976 < y) = false := decide_eq_false (by omega)
  clear h hI hH hq1 hub hoi hpi hp
  generalize hs1 : upd sc v (moreS (sc v) y) = sc1 at *
  generalize hxv : sc v = x at *
  by_cases hle : x + y ≤ 1152921504606846976
  · have hm : moreS x y = x + y := by unfold moreS; omega
    rw [hm] at HQ1 HK1
    clear hm
    go_enter Try.func10, Try.ntmps10
    go_wp2_with fail
    refine HH.out.mono ?_
    rintro e w' ⟨rfl, rfl⟩
    go_wp2_with fail
    go_region
    generalize (w.setCell ⟨gs, v, none⟩ (.int .i64 (x + y))).drew = W1 at HQ1 HK1 ⊢
    clear c0 cv fv HH hle hx0 hx1
    have HW := Lib.hid (waits_nat W1 HQ1.out hn (v : Int))
    rw [(inB_iff n (v : Int)).2 ⟨by omega, by omega⟩, show ((v : Int).toNat) = v from by omega, HP.out, show (((i : Nat) : Int) != -1) = true from by rw [bne_iff_ne]; omega] at HW
    go_wp2_with fail
    refine HW.out.mono ?_
    rintro e w' ⟨rfl, rfl⟩
    clear HW
    have c1 := HQ1.out.h1
    have cv := HQ1.out.pls.cell (show v < n + 1 by omega)
    rw [HP.out] at cv
    have HF : Hid (∀ q, Calls Try.prog 28 #[.iface 58 (.pointer (some ⟨b, 0, none⟩)), .int .i64 i] (W1.drewN q) (UpPost b gs cs gp cp go co n m sc1 pl w)) := fun q => by
      refine (fix_any (W1.drewN q) (HQ1.out.drewN q) HI.out hn (i : Int) (by omega) (by omega) HU.out.1 HU.out.2).mono ?_
      rintro e w2 ⟨pl2, od2, he, hq2, hk2, r⟩
      exact ⟨pl2, od2, he, hq2, (HK1.out.drewN q).trans hk2 (fun _ h => .inl h), r⟩
    go_wp2_with fail
    go_region_with ((go_at_call 28; refine (HF.out 1).mono ?_; rintro e w2 ⟨pl2, od2, rfl, r⟩; have HE := Lib.hid r; clear r))
    go_wp2_with fail
    go_ret
    exact ⟨rfl, pl2, od2, rfl, HE.out⟩
  · have hm : moreS x y = 1152921504606846976 := by unfold moreS; omega
    rw [hm] at HQ1 HK1
    clear hm
    go_enter Try.func10, Try.ntmps10
    go_wp2_with fail
    refine HH.out.mono ?_
    rintro e w' ⟨rfl, rfl⟩
    go_wp2_with fail
    go_region
    generalize (w.setCell ⟨gs, v, none⟩ (.int .i64 (1152921504606846976))).drew = W1 at HQ1 HK1 ⊢
    clear c0 cv fv HH hle hx0 hx1
    have HW := Lib.hid (waits_nat W1 HQ1.out hn (v : Int))
    rw [(inB_iff n (v : Int)).2 ⟨by omega, by omega⟩, show ((v : Int).toNat) = v from by omega, HP.out, show (((i : Nat) : Int) != -1) = true from by rw [bne_iff_ne]; omega] at HW
    go_wp2_with fail
    refine HW.out.mono ?_
    rintro e w' ⟨rfl, rfl⟩
    clear HW
    have c1 := HQ1.out.h1
    have cv := HQ1.out.pls.cell (show v < n + 1 by omega)
    rw [HP.out] at cv
    have HF : Hid (∀ q, Calls Try.prog 28 #[.iface 58 (.pointer (some ⟨b, 0, none⟩)), .int .i64 i] (W1.drewN q) (UpPost b gs cs gp cp go co n m sc1 pl w)) := fun q => by
      refine (fix_any (W1.drewN q) (HQ1.out.drewN q) HI.out hn (i : Int) (by omega) (by omega) HU.out.1 HU.out.2).mono ?_
      rintro e w2 ⟨pl2, od2, he, hq2, hk2, r⟩
      exact ⟨pl2, od2, he, hq2, (HK1.out.drewN q).trans hk2 (fun _ h => .inl h), r⟩
    go_wp2_with fail
    go_region_with ((go_at_call 28; refine (HF.out 1).mono ?_; rintro e w2 ⟨pl2, od2, rfl, r⟩; have HE := Lib.hid r; clear r))
    go_wp2_with fail
    go_ret
    exact ⟨rfl, pl2, od2, rfl, HE.out⟩

set_option maxHeartbeats 6400000 in
set_option maxRecDepth 100000 in
theorem bump_away (w : World) (h : QAt w b gs cs gp cp go co n m sc pl od) (hI : Inv n m pl od) (hH : Hp sc od 0 m) (hn : n ≤ 1000) (v : Nat) (y : Int) (h1 : 1 ≤ v) (h2 : v ≤ n) (hy0 : 0 ≤ y) (hy1 : y ≤ 1152921504606846976) (hx0 : 0 ≤ sc v) (hx1 : sc v ≤ 1152921504606846976) (hp : pl v = -1) :
    Calls Try.prog 10 #[.pointer (some ⟨b, 0, none⟩), .int .i64 v, .int .i64 y] w fun e w' => e = .returned (.int .i64 0) ∧ UpPost b gs cs gp cp go co n m (upd sc v (moreS (sc v) y)) pl w (.returned (.tuple #[])) w' := by
  have HB := Lib.hid (moreS_bd hx0 hy0 hx1)
  have c0 := h.h0
  have cv := h.scs.cell (show v < n + 1 by omega)
  have fv := h.scs.free v
  have HH := Lib.hid (has_nat w h hn (v : Int))
  rw [(inB_iff n (v : Int)).2 ⟨by omega, by omega⟩] at HH
  have hq1 := h.setS (show v < n + 1 by omega) (moreS (sc v) y)
  have HQ1 : Hid (QAt (w.setCell ⟨gs, v, none⟩ (.int .i64 (moreS (sc v) y))).drew b gs cs gp cp go co n m (upd sc v (moreS (sc v) y)) pl od) := hq1.drewN 1
  have HK1 : Hid (Kf (Foot b gs gp go) w (w.setCell ⟨gs, v, none⟩ (.int .i64 (moreS (sc v) y))).drew) := ((Kf.refl _ _).set (.inl (.inr (.inl rfl))) _).drew
  have HHp : Hid (Hp (upd sc v (moreS (sc v) y)) od 0 m) := fun c c1 c2 c3 => by
    have a := hI.fwd c c2
    have a' := hI.fwd ((c - 1) / 2) (by omega)
    have := hH c c1 c2 c3
    unfold le at this ⊢
    rw [upd_ne _ _ (fun e => by rw [e] at a; omega), upd_ne _ _ (fun e => by rw [e] at a'; omega)]
    exact this
  have HI := Lib.hid hI
  have HP := Lib.hid hp
  have ta : (y < 0) = False := by simp; omega
  have tb : decide (1152921504606846976 < y) = false := decide_eq_false (by omega)
  clear h hI hH hq1 hp
  generalize hs1 : upd sc v (moreS (sc v) y) = sc1 at *
  generalize hxv : sc v = x at *
  by_cases hle : x + y ≤ 1152921504606846976
  · have hm : moreS x y = x + y := by unfold moreS; omega
    rw [hm] at HQ1 HK1
    clear hm
    go_enter Try.func10, Try.ntmps10
    go_wp2_with fail
    refine HH.out.mono ?_
    rintro e w' ⟨rfl, rfl⟩
    go_wp2_with fail
    go_region
    generalize (w.setCell ⟨gs, v, none⟩ (.int .i64 (x + y))).drew = W1 at HQ1 HK1 ⊢
    clear c0 cv fv HH hle hx0 hx1
    have HW := Lib.hid (waits_nat W1 HQ1.out hn (v : Int))
    rw [(inB_iff n (v : Int)).2 ⟨by omega, by omega⟩, show ((v : Int).toNat) = v from by omega, HP.out, show ((-1 : Int) != -1) = false from rfl] at HW
    go_wp2_with fail
    refine HW.out.mono ?_
    rintro e w' ⟨rfl, rfl⟩
    clear HW
    go_wp2_with fail
    go_ret
    exact ⟨rfl, pl, od, rfl, HQ1.out, HK1.out, HI.out, SameW.refl _ _, HHp.out⟩
  · have hm : moreS x y = 1152921504606846976 := by unfold moreS; omega
    rw [hm] at HQ1 HK1
    clear hm
    go_enter Try.func10, Try.ntmps10
    go_wp2_with fail
    refine HH.out.mono ?_
    rintro e w' ⟨rfl, rfl⟩
    go_wp2_with fail
    go_region
    generalize (w.setCell ⟨gs, v, none⟩ (.int .i64 (1152921504606846976))).drew = W1 at HQ1 HK1 ⊢
    clear c0 cv fv HH hle hx0 hx1
    have HW := Lib.hid (waits_nat W1 HQ1.out hn (v : Int))
    rw [(inB_iff n (v : Int)).2 ⟨by omega, by omega⟩, show ((v : Int).toNat) = v from by omega, HP.out, show ((-1 : Int) != -1) = false from rfl] at HW
    go_wp2_with fail
    refine HW.out.mono ?_
    rintro e w' ⟨rfl, rfl⟩
    clear HW
    go_wp2_with fail
    go_ret
    exact ⟨rfl, pl, od, rfl, HQ1.out, HK1.out, HI.out, SameW.refl _ _, HHp.out⟩

set_option maxHeartbeats 3200000 in
set_option maxRecDepth 100000 in
theorem bump_bad (w : World) (h : QAt w b gs cs gp cp go co n m sc pl od) (hn : n ≤ 1000) (v y : Int) (hb : ¬ (inB n v = true ∧ 0 ≤ y ∧ y ≤ 1152921504606846976)) :
    Calls Try.prog 10 #[.pointer (some ⟨b, 0, none⟩), .int .i64 v, .int .i64 y] w fun e w' => e = .returned (.int .i64 31) ∧ w = w' := by
  have HH := Lib.hid (has_nat w h hn v)
  clear h
  rcases hv : inB n v
  · rw [hv] at HH
    clear hb hv
    go_enter Try.func10, Try.ntmps10
    go_wp2_with fail
    refine HH.out.mono ?_
    rintro e w' ⟨rfl, rfl⟩
    go_wp2_with fail
    go_ret
    exact ⟨rfl, rfl⟩
  · rw [hv] at HH hb
    by_cases hy : y < 0
    · clear hb hv
      go_enter Try.func10, Try.ntmps10
      go_wp2_with fail
      refine HH.out.mono ?_
      rintro e w' ⟨rfl, rfl⟩
      go_wp2_with fail
      go_ret
      exact ⟨rfl, rfl⟩
    · have ta : (y < 0) = False := by simp; omega
      have tb : decide (1152921504606846976 < y) = true := decide_eq_true (by simp at hb; omega)
      clear hb hv hy
      go_enter Try.func10, Try.ntmps10
      go_wp2_with fail
      refine HH.out.mono ?_
      rintro e w' ⟨rfl, rfl⟩
      go_wp2_with fail
      go_ret
      exact ⟨rfl, rfl⟩
end

/-- Bump at what there is. -/
theorem bump_yes {b n : Nat} {F : Nat → Prop} {sc : Nat → Int} {wt : Nat → Bool} (w : World) (h : RankAt w b F n sc wt) (hn : n ≤ 1000) (v : Nat) (y : Int) (h1 : 1 ≤ v) (h2 : v ≤ n) (hy0 : 0 ≤ y) (hy1 : y ≤ 1152921504606846976) :
    Calls Try.prog 10 #[.pointer (some ⟨b, 0, none⟩), .int .i64 v, .int .i64 y] w fun e w' => e = .returned (.int .i64 0) ∧ RankTo F w w' b n (upd sc v (moreS (sc v) y)) wt := by
  obtain ⟨gs, cs, gp, cp, go, co, m, pl, od, hQ, hI, hH, hW, hS, rfl⟩ := h
  have key : ∀ (e : Ending) (w' : World), (e = .returned (.int .i64 0) ∧ UpPost b gs cs gp cp go co n m (upd sc v (moreS (sc v) y)) pl w (.returned (.tuple #[])) w') → (e = .returned (.int .i64 0) ∧ RankTo (Foot b gs gp go) w w' b n (upd sc v (moreS (sc v) y)) wt) := by
    rintro e w' ⟨rfl, pl2, od2, _, hq, hk, hi, hs, hh⟩
    refine ⟨rfl, Foot b gs gp go, ⟨gs, cs, gp, cp, go, co, m, pl2, od2, hq, hi, hh, like_of hW hs, fun u => ?_, rfl⟩, fun k hk => .inl hk, hk⟩
    have a := hS v
    have b := moreS_bd a.1 hy0 a.2
    unfold upd
    split
    · omega
    · exact hS u
  by_cases hp : pl v = -1
  · exact (bump_away w hQ hI hH hn v y h1 h2 hy0 hy1 (hS v).1 (hS v).2 hp).mono key
  · exact (bump_wait w hQ hI hH hn v y h1 h2 hy0 hy1 (hS v).1 (hS v).2 hp).mono key
end Go.Proofs.Ytffpggdbmfidcaa
