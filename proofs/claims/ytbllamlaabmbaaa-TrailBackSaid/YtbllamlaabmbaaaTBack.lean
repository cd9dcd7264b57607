/- TrailBack is true: the statement Rows.TrailBackSaid, without a condition. -/
import Derived.Test.YtbllamlaabmbaaaTLiveG
import Derived.Deep.RegionWith
import Derived.Deep.QuietTactic
import Derived.Deep.CutBlock
namespace Go.Proofs.Ytbllamlaabmbaaa.TBack
open Go.ChangeShapes Go.WideShapes Go.ChangeAt Go.RowKit LitM TrailM

/-- Nothing that was there is gone: the first d levels are as they were. -/
def Keep (d : Nat) (L : List Ent) (d' : Nat) (L' : List Ent) : Prop := ∃ M, L' = L ++ M ∧ (∀ x ∈ M, d < x.lv) ∧ d ≤ d' ∧ (d' = d → M = [])
theorem Keep.refl (d : Nat) (L : List Ent) : Keep d L d L := ⟨[], by simp, by simp, Nat.le_refl _, fun _ => rfl⟩
theorem Keep.decide {n d d' : Nat} {L L' : List Ent} (h : Keep d L d' L') (l : Int) : Keep d L (decD n d' L' l) (decL n d' L' l) := by
  unfold decD decL
  by_cases e : errZ n L' l = 0
  · rw [if_pos e, if_pos e]
    obtain ⟨M, rfl, h1, h2, h3⟩ := h
    refine ⟨M ++ [⟨l, d' + 1, -1⟩], by simp, fun x hx => ?_, by omega, fun e => by omega⟩
    rcases List.mem_append.1 hx with e | e
    · exact h1 x e
    · have : x = ⟨l, d' + 1, -1⟩ := by simpa using e
      subst this; show d < d' + 1; omega
  · rw [if_neg e, if_neg e]; exact h
theorem Keep.set {n d d' : Nat} {L L' : List Ent} (h : Keep d L d' L') (hd : d < d') (l r : Int) : Keep d L d' (setL n d' L' l r) := by
  unfold setL
  by_cases e : errZ n L' l = 0
  · rw [if_pos e]
    obtain ⟨M, rfl, h1, h2, h3⟩ := h
    refine ⟨M ++ [⟨l, d', r⟩], by simp, fun x hx => ?_, by omega, fun e => by omega⟩
    rcases List.mem_append.1 hx with e | e
    · exact h1 x e
    · have : x = ⟨l, d', r⟩ := by simpa using e
      subst this; exact hd
  · rw [if_neg e]; exact h
theorem Keep.back {n d d' : Nat} {L L' : List Ent} (hO : Ok n d L) (h : Keep d L d' L') : errB d' (d : Int) = 0 ∧ backD d' (d : Int) = d ∧ backL d' L' (d : Int) = L := by
  obtain ⟨M, rfl, h1, h2, h3⟩ := h
  have hv : 0 ≤ (d : Int) ∧ (d : Int) ≤ (d' : Int) := ⟨by omega, by omega⟩
  refine ⟨by unfold errB; rw [if_pos hv], by unfold backD; rw [if_pos hv]; rfl, ?_⟩
  unfold backL
  rw [if_pos hv, Int.toNat_natCast]
  have : upTo (L ++ M) d = L.length := by
    have h4 := upTo_all hO.pre
    unfold upTo at h4 ⊢
    rw [List.countP_append, h4]
    have : M.countP (fun x => Decidable.decide (x.lv ≤ d)) = 0 := by
      rw [List.countP_eq_zero]
      intro x hx
      have := h1 x hx
      simp; omega
    omega
  rw [this, List.take_left']
  rfl

set_option maxHeartbeats 6400000 in
set_option maxRecDepth 100000 in
theorem walk (A A2 : Option Addr) (n c n2 c2 : Nat) (xs ys : List Int) (w : World) (hx : Rd .i32 w w.heap.size A n xs) (hy : Rd .i32 w w.heap.size A2 n2 ys) (ix : In32 xs) (iy : In32 ys) :
    Calls Try.prog 5 #[.slice A n c, .slice A2 n2 c2] w fun e w' => e = .returned (.bool true) ∧ Below w.heap.size w w' := by
  have HX := Lib.hid hx
  have HY := Lib.hid hy
  clear hx hy
  go_enter Try.func5, Try.ntmps5
  go_wp2_with fail
  refine (talive_any w).mono ?_
  rintro e w1 ⟨rfl, hb1⟩
  by_cases hn : n ≤ 30
  case neg =>
    have t1 : decide (30 < n) = true := decide_eq_true (by omega)
    have t2 : decide ((30 : Int) < (n : Int)) = true := decide_eq_true (by omega)
    go_wp2_with fail
    go_ret
    exact ⟨rfl, hb1⟩
  have t1 : decide (30 < n) = false := decide_eq_false (by omega)
  have t2 : decide ((30 : Int) < (n : Int)) = false := decide_eq_false (by omega)
  by_cases hn2 : n2 ≤ 30
  case neg =>
    have t3 : decide (30 < n2) = true := decide_eq_true (by omega)
    have t4 : decide ((30 : Int) < (n2 : Int)) = true := decide_eq_true (by omega)
    go_wp2_with fail
    go_ret
    exact ⟨rfl, hb1⟩
  have t3 : decide (30 < n2) = false := decide_eq_false (by omega)
  have t4 : decide ((30 : Int) < (n2 : Int)) = false := decide_eq_false (by omega)
  go_wp2_with fail
  refine (tnew_any 20 w1 (by omega)).mono ?_
  intro e w2 hm
  obtain ⟨b, rfl, h2⟩ := LiveT.make hm hb1 (Nat.le_refl _)
  rw [show (20 : Int).toNat = 20 from rfl] at h2
  have H2 := Lib.hid h2
  clear hm h2 hb1 t1 t2 t3 t4
  go_wp2_with fail
  obtain ⟨wo, rfl⟩ : ∃ wo : World, wo = w := ⟨_, rfl⟩
  go_loopw [30] (fun v wr => ∃ k d L, v = .int .i64 ((k : Nat) : Int) ∧ k ≤ n ∧ LiveT wo.heap.size wo wr b 20 d L) (fun v _ => n - (intOf v).toNat)
  case atStart => exact ⟨0, 0, [], rfl, by omega, H2.out⟩
  case round =>
    obtain ⟨k, d, L, rfl, hk, hL⟩ := hrel
    by_cases hlt : k < n
    · obtain ⟨bk, o, rfl, hbk, ck⟩ := (HX.out.below hL.out).get hlt
      have i0 := ix k
      obtain ⟨i0, i1⟩ := i0
      generalize xs.getD k 0 = l at *
      have HD := Lib.hid (hL.decide (by omega) l i0 i1)
      have HS := Lib.hid (hL.set (by omega) l (k : Int) i0 i1)
      clear hL
      have tk : decide (k < n) = true := decide_eq_true hlt
      by_cases hp : k % 2 = 0
      · have tp : (k % 2 == 0) = true := by rw [beq_iff_eq]; exact hp
        have tp2 : ((k : Int) % 2 == 0) = true := by rw [beq_iff_eq]; omega
        have tp3 : ((k : Int).tmod 2 == 0) = true := by rw [beq_iff_eq, Int.tmod_eq_emod_of_nonneg (by omega)]; omega
        go_wp2_with fail
        refine HD.out.mono ?_
        rintro e w4 ⟨rfl, hL4⟩
        have HL4 := Lib.hid hL4
        clear hL4 HD HS
        go_wp2_with fail
        go_roundw
        case rel => exact ⟨k + 1, _, _, by go_num, by omega, HL4.out⟩
        case measure => simp [intOf]; omega
      · have tp : (k % 2 == 0) = false := by rw [beq_eq_false_iff_ne]; exact hp
        have tp2 : ((k : Int) % 2 == 0) = false := by rw [beq_eq_false_iff_ne]; omega
        have tp3 : ((k : Int).tmod 2 == 0) = false := by rw [beq_eq_false_iff_ne, Int.tmod_eq_emod_of_nonneg (by omega)]; omega
        go_wp2_with fail
        refine HS.out.mono ?_
        rintro e w4 ⟨rfl, hL4⟩
        have HL4 := Lib.hid hL4
        clear hL4 HD HS
        go_wp2_with fail
        go_roundw
        case rel => exact ⟨k + 1, _, _, by go_num, by omega, HL4.out⟩
        case measure => simp [intOf]; omega
    · have tk : decide (k < n) = false := decide_eq_false hlt
      have HD := Lib.hid hL.depth
      have HZ := Lib.hid hL.size
      go_wp2_with fail
      refine HD.out.mono ?_
      rintro e w' ⟨rfl, rfl⟩
      go_wp2_with fail
      refine HZ.out.mono ?_
      rintro e w' ⟨rfl, rfl⟩
      have HL := Lib.hid hL
      clear hL HD HZ HX H2
      have hpb : Try.prog.built 54 [] = some #[.int .i64 0, .int .i64 0, .int .i64 0, .int .i64 0, .int .i64 0, .int .i64 0, .int .i64 0, .int .i64 0, .int .i64 0, .int .i64 0, .int .i64 0, .int .i64 0, .int .i64 0, .int .i64 0, .int .i64 0, .int .i64 0, .int .i64 0, .int .i64 0, .int .i64 0, .int .i64 0, .int .i64 0] := by kernel_rfl
      have hpi : (Try.prog.info? 54).map (fun i => (i.zero, i.size)) = some (some (.agg #[.int .i64 0, .int .i64 0, .int .i64 0, .int .i64 0, .int .i64 0, .int .i64 0, .int .i64 0, .int .i64 0, .int .i64 0, .int .i64 0, .int .i64 0, .int .i64 0, .int .i64 0, .int .i64 0, .int .i64 0, .int .i64 0, .int .i64 0, .int .i64 0, .int .i64 0, .int .i64 0, .int .i64 0]), 21) := by kernel_rfl
      obtain ⟨C, hC1, hC2, hC3, hC4⟩ : ∃ C : Array Value, Try.prog.built 54 [] = some C ∧ (Try.prog.info? 54).map (fun i => (i.zero, i.size)) = some (some (.agg C), C.size) ∧ C.all (·.oneCell') = true ∧ C.size = 21 := ⟨_, hpb, hpi, by decide +kernel, rfl⟩
      clear hpb hpi
      have HC1 := Lib.hid hC1
      have HC2 := Lib.hid hC2
      have HC3 := Lib.hid hC3
      have HC4 := Lib.hid hC4
      clear hC1 hC2 hC3 hC4
      go_upto_region 14 with (fail)
      refine wp_region_zeros 54 50 10 C rfl rfl rfl rfl rfl rfl rfl rfl rfl HC1.out HC2.out HC3.out rfl rfl ?_
      have HW : Hid (LiveG wo.heap.size wo (wr.alloc (.cells C 54)) (fun k => False ∨ k = wr.heap.size) b 20 d L) := HL.out.liveG.alloc _
      have HRW : Hid (RowV 54 21 (wr.alloc (.cells C 54)) wr.heap.size 1 1 (fun j => (C[j]?).getD (.int .i64 0))) := RowV.made (by omega) (by rw [HC4.out]) (fun j hj => by
        have := HC4.out
        rw [Array.getElem?_eq_getElem (by omega)]; rfl)
      have HLB : Hid (Below wo.heap.size wo (wr.alloc (.cells C 54))) := HW.out.out
      generalize wr.alloc (.cells C 54) = W1 at HW HRW HLB ⊢
      generalize hbx : wr.heap.size = bx at *
      clear HC1 HC2 HC3 HC4 hbx
      have HOk := Lib.hid HL.out.ok
      have HLL := Lib.hid HL
      clear HL HLL HLB
      go_wp2_with fail
      go_loopw [51] (fun v wr => ∃ m f, v = .int .i64 ((m : Nat) : Int) ∧ m ≤ 21 ∧ LiveG wo.heap.size wo wr (fun k => False ∨ k = bx) b 20 d L ∧ RowV 54 21 wr bx 1 1 f ∧ ∀ j, j < m → f j = .int .i64 (valZ L (j : Int))) (fun v _ => 21 - (intOf v).toNat)
      case atStart => exact ⟨0, _, rfl, by omega, HW.out, HRW.out, fun j hj => by omega⟩
      case round =>
        obtain ⟨m, f, rfl, hm, hL, hR, hf⟩ := hrel
        by_cases hlt : m < 21
        · have tm : decide (m < 21) = true := decide_eq_true hlt
          have tm2 : decide ((m : Int) < 21) = true := decide_eq_true (by omega)
          have hw : IntKind.i32.wrap (m : Int) = (m : Int) := by rw [IntKind.wrap_i32]; omega
          have HV := Lib.hid (hL.live.value (by omega) (m : Int) (by omega) (by omega))
          have cm := hR.cell (show m < 1 * 21 by omega)
          have fz := hR.free m
          have HE : Hid (∀ x, LiveG wo.heap.size wo (wr.setCell ⟨bx, m, none⟩ x) (fun k => False ∨ k = bx) b 20 d L ∧ RowV 54 21 (wr.setCell ⟨bx, m, none⟩ x) bx 1 1 (updV f m x)) := fun x => ⟨hL.set_ (.inr rfl) x, hR.set (by omega) x⟩
          have HF := Lib.hid hf
          clear hL hR hf
          generalize f m = y at cm
          generalize hz : valZ L (m : Int) = z at HV
          have HZ := Lib.hid hz
          clear hz
          go_wp2_with fail
          refine HV.out.mono ?_
          rintro e w' ⟨rfl, rfl⟩
          go_wp2_with fail
          go_roundw
          case rel =>
            refine ⟨m + 1, _, by go_num, by omega, (HE.out _).1, (HE.out _).2, fun j hj => ?_⟩
            by_cases e : j = m
            · subst e; rw [updV_at, HZ.out]
            · rw [updV_ne _ _ e]; exact HF.out j (by omega)
          case measure => simp [intOf]; omega
        · have tm : decide (m < 21) = false := decide_eq_false hlt
          have tm2 : decide ((m : Int) < 21) = false := decide_eq_false (by omega)
          obtain rfl : m = 21 := by omega
          have HD := Lib.hid (hL.decide (by omega) 19 (by omega) (by omega))
          have HR := Lib.hid hR
          have HF := Lib.hid hf
          clear hL hR hf HW HRW
          go_wp2_with fail
          refine HD.out.mono ?_
          rintro e w5 ⟨rfl, hL5, hs5⟩
          have HL5 := Lib.hid hL5
          have HR5 : Hid (RowV 54 21 w5 bx 1 1 f) := HR.out.same (hs5 bx (.inr rfl))
          have HK5 := Lib.hid ((Keep.refl d L).decide (n := 20) 19)
          clear hL5 hs5 HD HR
          go_wp2_with fail
          go_loopw [65] (fun v wr => ∃ k d' L', v = .int .i64 ((k : Nat) : Int) ∧ k ≤ n2 ∧ LiveG wo.heap.size wo wr (fun k => False ∨ k = bx) b 20 d' L' ∧ Keep d L d' L' ∧ RowV 54 21 wr bx 1 1 f) (fun v _ => n2 - (intOf v).toNat)
          case atStart => exact ⟨0, _, _, rfl, by omega, HL5.out, HK5.out, HR5.out⟩
          case round =>
            obtain ⟨k, d', L', rfl, hk, hL, hK, hR⟩ := hrel
            clear HL5 HK5 HR5
            by_cases hlt : k < n2
            · obtain ⟨bk, o, rfl, hbk, ck⟩ := (HY.out.below hL.out).get hlt
              have i0 := iy k
              obtain ⟨i0, i1⟩ := i0
              generalize ys.getD k 0 = l at *
              have HD := Lib.hid (hL.decide (by omega) l i0 i1)
              have HS := Lib.hid (hL.set (by omega) l (k : Int) i0 i1)
              have HP := Lib.hid hL.live.depth
              have HL := Lib.hid hL
              have HK := Lib.hid hK
              have HR := Lib.hid hR
              clear hL hK hR
              have tk : decide (k < n2) = true := decide_eq_true hlt
              by_cases hp : k % 3 = 0
              · have tp : (k % 3 == 0) = true := by rw [beq_iff_eq]; exact hp
                have tp2 : ((k : Int) % 3 == 0) = true := by rw [beq_iff_eq]; omega
                have tp3 : ((k : Int).tmod 3 == 0) = true := by rw [beq_iff_eq, Int.tmod_eq_emod_of_nonneg (by omega)]; omega
                go_wp2_with fail
                refine HD.out.mono ?_
                rintro e w6 ⟨rfl, hL6, hs6⟩
                have HL6 := Lib.hid hL6
                have HR6 : Hid (RowV 54 21 w6 bx 1 1 f) := HR.out.same (hs6 bx (.inr rfl))
                clear hL6 hs6 HD HS HP HL HR
                go_wp2_with fail
                go_roundw
                case rel => exact ⟨k + 1, _, _, by go_num, by omega, HL6.out, HK.out.decide (n := 20) l, HR6.out⟩
                case measure => simp [intOf]; omega
              · have tp : (k % 3 == 0) = false := by rw [beq_eq_false_iff_ne]; exact hp
                have tp2 : ((k : Int) % 3 == 0) = false := by rw [beq_eq_false_iff_ne]; omega
                have tp3 : ((k : Int).tmod 3 == 0) = false := by rw [beq_eq_false_iff_ne, Int.tmod_eq_emod_of_nonneg (by omega)]; omega
                by_cases hd : d < d'
                · have td : decide (d < d') = true := decide_eq_true hd
                  have td2 : decide ((d : Int) < (d' : Int)) = true := decide_eq_true (by omega)
                  go_wp2_with fail
                  refine HP.out.mono ?_
                  rintro e w' ⟨rfl, rfl⟩
                  go_wp2_with fail
                  refine HS.out.mono ?_
                  rintro e w6 ⟨rfl, hL6, hs6⟩
                  have HL6 := Lib.hid hL6
                  have HR6 : Hid (RowV 54 21 w6 bx 1 1 f) := HR.out.same (hs6 bx (.inr rfl))
                  clear hL6 hs6 HD HS HP HL HR
                  go_wp2_with fail
                  go_roundw
                  case rel => exact ⟨k + 1, _, _, by go_num, by omega, HL6.out, HK.out.set (n := 20) hd l _, HR6.out⟩
                  case measure => simp [intOf]; omega
                · have td : decide (d < d') = false := decide_eq_false hd
                  have td2 : decide ((d : Int) < (d' : Int)) = false := decide_eq_false (by omega)
                  go_wp2_with fail
                  refine HP.out.mono ?_
                  rintro e w' ⟨rfl, rfl⟩
                  clear HD HS HP
                  go_wp2_with fail
                  go_roundw
                  case rel => exact ⟨k + 1, _, _, by go_num, by omega, HL.out, HK.out, HR.out⟩
                  case measure => simp [intOf]; omega
            · have tk : decide (k < n2) = false := decide_eq_false hlt
              obtain ⟨e1, e2, e3⟩ := hK.back HOk.out
              have hb := hL.back (by omega) (d : Int)
              unfold BackG at hb
              rw [e1, e2, e3] at hb
              have HB := Lib.hid hb
              have HR := Lib.hid hR
              clear hb e1 e2 e3 hL hK hR
              go_wp2_with fail
              refine HB.out.mono ?_
              rintro e w6 ⟨A6, m6, c6, rfl, _, _, _, hL6, hs6⟩
              have HL6 := Lib.hid hL6
              have HR6 : Hid (RowV 54 21 w6 bx 1 1 f) := HR.out.same (hs6 bx (.inr rfl))
              clear hL6 hs6 HB HR
              go_wp2_with fail
              go_loopw [91] (fun v wr => ∃ m, v = .int .i64 ((m : Nat) : Int) ∧ m ≤ 21 ∧ LiveG wo.heap.size wo wr (fun k => False ∨ k = bx) b 20 d L ∧ RowV 54 21 wr bx 1 1 f) (fun v _ => 21 - (intOf v).toNat)
              case atStart => exact ⟨0, rfl, by omega, HL6.out, HR6.out⟩
              case round =>
                obtain ⟨m, rfl, hm, hL, hR⟩ := hrel
                clear HL6 HR6
                by_cases hlt : m < 21
                · have tm : decide (m < 21) = true := decide_eq_true hlt
                  have tm2 : decide ((m : Int) < 21) = true := decide_eq_true (by omega)
                  have hw : IntKind.i32.wrap (m : Int) = (m : Int) := by rw [IntKind.wrap_i32]; omega
                  have HV : Hid (∀ q, Calls Try.prog 23 #[.pointer (some ⟨b, 0, none⟩), .int .i32 (m : Int)] (wr.drewN q) fun e w' => e = .returned (.int .i64 (valZ L (m : Int))) ∧ w' = wr.drewN q) := fun q =>
                    ((hL.drewN q).live.value (by omega) (m : Int) (by omega) (by omega)).mono fun e w' ⟨h1, h2⟩ => ⟨h1, h2.symm⟩
                  have cm := hR.cell (show m < 1 * 21 by omega)
                  rw [HF.out m hlt] at cm
                  have HE : Hid (∀ q, LiveG wo.heap.size wo (wr.drewN q) (fun k => False ∨ k = bx) b 20 d L ∧ RowV 54 21 (wr.drewN q) bx 1 1 f) := fun q => ⟨hL.drewN q, hR.same rfl⟩
                  clear hL hR
                  generalize valZ L (m : Int) = z at *
                  have tz : (z != z) = false := by simp
                  go_wp2_with fail
                  go_quiet ((go_at_call 23; exact Calls.quiet_of_same (HV.out _)))
                  go_wp2_with fail
                  go_roundw
                  case rel => exact ⟨m + 1, by go_num, by omega, (HE.out _).1, (HE.out _).2⟩
                  case measure => simp [intOf]; omega
                · have tm : decide (m < 21) = false := decide_eq_false hlt
                  have tm2 : decide ((m : Int) < 21) = false := decide_eq_false (by omega)
                  have HZ := Lib.hid hL.live.size
                  have HP := Lib.hid hL.live.depth
                  have HO := Lib.hid hL.out
                  have z1 : ((L.length : Int) == (L.length : Int)) = true := by simp
                  have z2 : ((d : Int) == (d : Int)) = true := by simp
                  clear hL hR
                  go_wp2_with fail
                  refine HZ.out.mono ?_
                  rintro e w' ⟨rfl, rfl⟩
                  go_wp2_with fail
                  refine HP.out.mono ?_
                  rintro e w' ⟨rfl, rfl⟩
                  go_wp2_with fail
                  go_ret
                  exact ⟨rfl, HO.out⟩

set_option maxHeartbeats 800000 in
set_option maxRecDepth 100000 in
theorem lifted (os : Os) (started : os.Started) (H : Type) (enc : TypeId × Value → H) :
    ReturnsInHanded {} Try.checked os 5 .any (Rows.trailBackSpec.pre6 enc Try.prog Try.f5 Rows.trailBackRow.domain false) (Rows.trailBackSpec.post enc Try.prog Try.f5 false true false false) := by
  refine returnsInHanded_of_change (C := Try.checked) own_knob started (by kernel_rfl) Try.func5
    (ChangeSpec.witness6 (enc := enc) (C := Try.checked) false ⟨#[], #[.slice none 0 0, .slice none 0 0], []⟩ 8 (by kernel_rfl) (by kernel_rfl) (by kernel_rfl) (by kernel_rfl)) ?_
  intro W base args ds gs before hval0 hW _ _
  have hval : ∀ (j : Nat) t v, Try.f5.params[j]? = some t → args[j]? = some v → Value.okWide Try.prog W .any base t v := hval0
  have hW' := hW
  obtain ⟨p, q, hA0, hV, rfl, _, _⟩ := hW
  have hA : DataW.TrodAll enc Try.prog W 0 (fun _ => true) true Try.f5.params.toList args.toList ds p := hA0
  rw [Try.params5] at hA hval
  obtain ⟨v0, v1, d0, d1, p0, p1, rfl, rfl, rfl, h0, h1⟩ := trodAll_two hA
  obtain ⟨rfl, rfl⟩ := trodVars_none hV
  obtain ⟨A0, n0, c0, xs0, rfl, hR0, h320, hn0, _⟩ := open_lits (hval 0 28 v0 rfl rfl) h0
  obtain ⟨A1, n1, c1, xs1, rfl, hR1, h321, hn1, _⟩ := open_lits (hval 1 28 v1 rfl rfl) h1
  clear hA0 hval0
  have hlt0 : ∀ y ∈ p0, y.block < W.heap.size := fun y hy => by simpa using hW'.lt y (by simp [hy])
  have hlt1 : ∀ y ∈ p1, y.block < W.heap.size := fun y hy => by simpa using hW'.lt y (by simp [hy])
  refine (walk A0 A1 n0 c0 n1 c1 xs0 xs1 W hR0 hR1 h320 h321).mono fun e W' ⟨he, hB⟩ => ?_
  subst he
  exact ⟨_, rfl, _, _, _, [], _, [], hW', trodAll_mk1 (shut_bool Try.underlying4 true), trodAll_mk2 (Below.trod laid_out (by kernel_rfl) (of_decide_eq_true (by kernel_rfl)) h0 hB hlt0) (Below.trod laid_out (by kernel_rfl) (of_decide_eq_true (by kernel_rfl)) h1 hB hlt1), rfl, hB.frame _, fun h => by cases h⟩

theorem proved : Rows.TrailBackSaid :=
  OpenClaim.holds_of_wide 5 Try.f5 rfl rfl rfl rfl rfl rfl rfl ⟨rfl, rfl, rfl, rfl, rfl⟩ rfl rfl rfl rfl rfl (by kernel_rfl) Try.func5 (by kernel_rfl)
    (of_decide_eq_true (by kernel_rfl)) (by unfold Func.isWrapper; first | (rw [if_pos (by decide +kernel)]; kernel_rfl) | (rw [if_neg (by decide +kernel)]; exact ⟨rfl, rfl⟩))
    (fun os started H enc _ => lifted os started H enc)
end Go.Proofs.Ytbllamlaabmbaaa.TBack
namespace Go.Proofs.Ytbllamlaabmbaaa
theorem trailBack_holds : Rows.TrailBackSaid := TBack.proved
#print axioms trailBack_holds
end Go.Proofs.Ytbllamlaabmbaaa
