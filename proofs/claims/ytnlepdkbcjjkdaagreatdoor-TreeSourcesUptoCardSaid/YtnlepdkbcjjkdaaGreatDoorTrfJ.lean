/- The plain answer of layer 14: Source. -/
import Derived.Test.YtnlepdkbcjjkdaaGreatDoorTrfI
import Derived.Deep.CutBlock
namespace Go.Proofs.YtnlepdkbcjjkdaaGreatDoor
open Go.RowKit TreM WrdM

def srcV (b : Bool) (t : List UInt8) : Value := if b then .tuple #[.string ⟨t.toArray⟩, .int .i64 0] else .tuple #[.string ⟨#[]⟩, .int .i64 141]
theorem flat_take_len {α : Type} (f : α → List UInt8) (g : α → Nat) (xs : List α) (n : Nat) (h : ∀ j x, j < n → xs[j]? = some x → (f x).length ≤ 64 * g x) : ((xs.take n).flatMap f).length ≤ 64 * (xs.map g).sum := by
  have h1 := flat_len f g 64 (xs.take n) fun x hx => by
    obtain ⟨j, hj⟩ := List.getElem?_of_mem hx
    have hjn : j < n := by
      rcases Nat.lt_or_ge j n with h | h
      · exact h
      · rw [List.getElem?_eq_none (by have := List.length_take_le n xs; omega)] at hj; cases hj
    rw [List.getElem?_take_of_lt hjn] at hj
    exact h j x hjn hj
  have h3 : (xs.map g).sum = ((xs.take n).map g).sum + ((xs.drop n).map g).sum := by rw [← List.sum_append, ← List.map_append, List.take_append_drop]
  omega
theorem all_no {α : Type} {p : α → Bool} {xs : List α} {x : α} (h : x ∈ xs) (hp : p x = false) : xs.all p = false := by
  rw [Bool.eq_false_iff]; intro e
  have := List.all_eq_true.1 e x h
  rw [hp] at this; cases this

set_option maxHeartbeats 6400000 in
set_option maxRecDepth 100000 in
theorem psource_any (m : Src) {Ae Av Ap : Option Addr} {ce cv cp : Nat} (w : World) (h : SrcC w m Ae ce Av cv Ap cp) (hw : wtS m ≤ 1048576) :
    Calls Tryz.prog 7 #[.agg (cS Ae m.enums.length ce Av m.vars.length cv Ap m.procs.length cp).toArray] w fun e w' => e = .returned (srcV (srcB m) (srcT m)) ∧ Below w.heap.size w w' := by
  obtain ⟨wa, hwa⟩ : ∃ wa, wa = w.alloc (.cells (cS Ae m.enums.length ce Av m.vars.length cv Ap m.procs.length cp).toArray 26) := ⟨_, rfl⟩
  have hba : Below w.heap.size w wa := by rw [hwa]; exact below_alloc w _
  have hga : wa.heap[w.heap.size]? = some (.cells (cS Ae m.enums.length ce Av m.vars.length cv Ap m.procs.length cp).toArray 26) := by rw [hwa]; exact blk_new w _
  have hlt : w.heap.size < wa.heap.size := by rw [hwa]; simp
  have hSa : SrcC wa m Ae ce Av cv Ap cp := h.below hba
  have hin := dcl_in64 h.av
  obtain ⟨hme, hce, hae, hmv, hcv, hav, hmp, hcp, hap⟩ := hSa
  obtain ⟨es, vs, ps⟩ := m
  have hT : srcT ⟨es, vs, ps⟩ = es.flatMap enumT ++ vs.flatMap declT ++ ps.flatMap procT := rfl
  have hE : srcB ⟨es, vs, ps⟩ = (decide (es.length ≤ 32) && (decide (vs.length ≤ 32) && (decide (ps.length ≤ 32) && (es.all enumB && (vs.all declB && ps.all procB))))) := rfl
  unfold wtS at hw
  rw [hT, hE]
  dsimp only at hme hmv hmp hae hav hap hga hwa hin hw ⊢
  have HC : Hid (∀ W, Below wa.heap.size wa W → W.heap[w.heap.size]? = some (.cells (cS Ae es.length ce Av vs.length cv Ap ps.length cp).toArray 26)) := fun W hW => (hW.block _ hlt).trans hga
  have HKE := Lib.hid hae
  have HKV := Lib.hid hav
  have HKP := Lib.hid hap
  have HGE : Hid (∀ k, k < es.length → ∃ x, es[k]? = some x) := fun k hk => get_el hk
  have HGV : Hid (∀ k, k < vs.length → ∃ x, vs[k]? = some x) := fun k hk => get_el hk
  have HGP : Hid (∀ k, k < ps.length → ∃ x, ps[k]? = some x) := fun k hk => get_el hk
  have HWE : Hid (∀ x ∈ es, wtE x ≤ 1048576) := fun x hx => by have := sum_mem wtE es x hx; omega
  have HWV : Hid (∀ x ∈ vs, wtD x ≤ 1048576) := fun x hx => by have := sum_mem wtD vs x hx; omega
  have HWP : Hid (∀ x ∈ ps, wtP x ≤ 1048576) := fun x hx => by have := sum_mem wtP ps x hx; omega
  have HLE : Hid (∀ n, (∀ j x, j < n → es[j]? = some x → enumB x = true) → ((es.take n).flatMap enumT).length ≤ 67108864) := fun n _ => by
    have := flat_take_len enumT wtE es n fun j x _ _ => enum_len x
    omega
  have HLV : Hid (∀ n, (∀ j x, j < n → vs[j]? = some x → declB x = true) → ((vs.take n).flatMap declT).length ≤ 67108864) := fun n hn => by
    have := flat_take_len declT wtD vs n fun j x hj hx => decl_len x (hn j x hj hx) (hin x (List.mem_of_getElem? hx)).1 (hin x (List.mem_of_getElem? hx)).2
    omega
  have HLP : Hid (∀ n, (∀ j x, j < n → ps[j]? = some x → procB x = true) → ((ps.take n).flatMap procT).length ≤ 67108864) := fun n hn => by
    have := flat_take_len procT wtP ps n fun j x hj hx => proc_len x (hn j x hj hx)
    omega
  obtain ⟨S, hS⟩ : ∃ S, S = (decide (es.length ≤ 32) && (decide (vs.length ≤ 32) && (decide (ps.length ≤ 32) && (es.all enumB && (vs.all declB && ps.all procB))))) := ⟨_, rfl⟩
  have HFE : Hid (∀ x, x ∈ es → enumB x = false → S = false) := fun x hx hf => by rw [hS, all_no hx hf]; simp
  have HFV : Hid (∀ x, x ∈ vs → declB x = false → S = false) := fun x hx hf => by rw [hS, all_no hx hf]; simp
  have HFP : Hid (∀ x, x ∈ ps → procB x = false → S = false) := fun x hx hf => by rw [hS, all_no hx hf]; simp
  have HNE : Hid (32 < es.length → S = false) := fun hx => by rw [hS, decide_eq_false (by omega : ¬ es.length ≤ 32)]; rfl
  have HNV : Hid (32 < vs.length → S = false) := fun hx => by rw [hS, decide_eq_false (by omega : ¬ vs.length ≤ 32)]; simp
  have HNP : Hid (32 < ps.length → S = false) := fun hx => by rw [hS, decide_eq_false (by omega : ¬ ps.length ≤ 32)]; simp
  have HSY : Hid (es.length ≤ 32 → vs.length ≤ 32 → ps.length ≤ 32 → es.all enumB = true → vs.all declB = true → ps.all procB = true → S = true) := fun h1 h2 h3 h4 h5 h6 => by
    rw [hS, decide_eq_true h1, decide_eq_true h2, decide_eq_true h3, h4, h5, h6]; rfl
  rw [← hS]
  have HSZ : Hid (∀ k, ((ps.take k).flatMap procT).length ≤ ((ps.take (k + 1)).flatMap procT).length) := fun k => by
    have := flatMap_le procT (ps.take (k + 1)) k
    rwa [List.take_take, Nat.min_eq_left (by omega)] at this
  obtain ⟨TT, hTT⟩ : ∃ TT, TT = es.flatMap enumT ++ vs.flatMap declT ++ ps.flatMap procT := ⟨_, rfl⟩
  rw [← hTT]
  have HTT := Lib.hid hTT
  have HBA := Lib.hid hba
  have HWA := Lib.hid hwa
  obtain ⟨g0, g1, g2⟩ := cells3s hga
  obtain ⟨ne, hne⟩ : ∃ n, n = es.length := ⟨_, rfl⟩
  obtain ⟨nv, hnv⟩ : ∃ n, n = vs.length := ⟨_, rfl⟩
  obtain ⟨np, hnp⟩ : ∃ n, n = ps.length := ⟨_, rfl⟩
  have HME := Lib.hid hne
  have HMV := Lib.hid hnv
  have HMP := Lib.hid hnp
  rw [← hne] at hme HC HGE HNE HSY HWA g0 ⊢
  rw [← hnv] at hmv HC HGV HNV HSY HWA g1 ⊢
  rw [← hnp] at hmp HC HGP HNP HSY HWA g2 ⊢
  have HB0 : Hid (Below wa.heap.size wa wa) := Below.refl _ _
  clear hS hTT hE hT hne hnv hnp hw hin hba hga hwa hlt h hae hav hap
  go_enter Tryz.func7, Tryz.ntmps7
  go_upto_region 2 with (fail)
  have hwa := HWA.out
  unfold cS at hwa
  rw [← hwa]
  clear hwa HWA
  by_cases h1 : 32 < ne
  · have t1 : decide ((32 : Int) < (ne : Int)) = true := decide_eq_true (by omega)
    have t1' : decide (32 < ne) = true := decide_eq_true h1
    have H3 := Lib.hid (HNE.out h1)
    go_wp2_with fail
    go_ret2
    exact ⟨by rw [H3.out]; rfl, HBA.out⟩
  have t1 : decide ((32 : Int) < (ne : Int)) = false := decide_eq_false (by omega)
  have t1' : decide (32 < ne) = false := decide_eq_false h1
  by_cases h2 : 32 < nv
  · have t2 : decide ((32 : Int) < (nv : Int)) = true := decide_eq_true (by omega)
    have t2' : decide (32 < nv) = true := decide_eq_true h2
    have H3 := Lib.hid (HNV.out h2)
    go_wp2_with fail
    go_ret2
    exact ⟨by rw [H3.out]; rfl, HBA.out⟩
  have t2 : decide ((32 : Int) < (nv : Int)) = false := decide_eq_false (by omega)
  have t2' : decide (32 < nv) = false := decide_eq_false h2
  by_cases h3 : 32 < np
  · have t3 : decide ((32 : Int) < (np : Int)) = true := decide_eq_true (by omega)
    have t3' : decide (32 < np) = true := decide_eq_true h3
    have H3 := Lib.hid (HNP.out h3)
    go_wp2_with fail
    go_ret2
    exact ⟨by rw [H3.out]; rfl, HBA.out⟩
  have t3 : decide ((32 : Int) < (np : Int)) = false := decide_eq_false (by omega)
  have t3' : decide (32 < np) = false := decide_eq_false h3
  obtain ⟨Z, hZ⟩ : ∃ Z : List UInt8, Z = [] := ⟨_, rfl⟩
  have hzl : Z.length = 0 := by rw [hZ]; rfl
  have hz0 : (⟨#[]⟩ : ByteArray) = ⟨Z.toArray⟩ := by rw [hZ]
  have HZ := Lib.hid hZ
  have HZ0 := Lib.hid hz0
  clear hZ hz0
  go_upto_block 0 with (fail)
  go_cut [4] (fun v wx => v = .string ⟨(Z ++ es.flatMap enumT).toArray⟩ ∧ Hid (Below wa.heap.size wa wx) ∧ Hid (es.all enumB = true))
  case first =>
    go_wp2_with fail
    go_loopw [4, 38] (fun out i wr => ∃ k : Nat, k ≤ ne ∧ out = .string ⟨(Z ++ (es.take k).flatMap enumT).toArray⟩ ∧ i = .int .i64 k ∧ Hid (Below wa.heap.size wa wr) ∧ Hid (∀ j x, j < k → es[j]? = some x → enumB x = true)) (fun _ i _ => ne - (intOf i).toNat)
    case atStart => exact ⟨0, Nat.zero_le _, by rw [HZ.out]; simp, rfl, HB0.out, fun j x hj => absurd hj (by omega)⟩
    case round =>
      clear g0 g1 g2
      obtain ⟨k, hk, rfl, rfl, HW, HA⟩ := hrel
      by_cases hlt : k < ne
      · have t1 : decide ((k : Int) < (ne : Int)) = true := decide_eq_true (by omega)
        have t2 : decide (k < ne) = true := decide_eq_true hlt
        obtain ⟨x, hx⟩ := HGE.out k hlt
        rcases HKE.out with hK | ⟨b', p', rfl, hb', hk'⟩
        · exfalso; rw [hK] at hx; simp at hx
        obtain ⟨cs, hl9, hc, hAs⟩ := hk' k x hx
        obtain ⟨q0, q1, q2, q3, q4, q5, rfl⟩ := form_enu hAs
        have c0 := hc 0 _ rfl
        rw [← HW.out.cell (p := ⟨b', p' + k * 4 + 0, none⟩) hb'] at c0
        have c1 := hc 1 _ rfl
        rw [← HW.out.cell (p := ⟨b', p' + k * 4 + 1, none⟩) hb'] at c1
        have c2 := hc 2 _ rfl
        rw [← HW.out.cell (p := ⟨b', p' + k * 4 + 2, none⟩) hb'] at c2
        have c3 := hc 3 _ rfl
        rw [← HW.out.cell (p := ⟨b', p' + k * 4 + 3, none⟩) hb'] at c3
        rw [Nat.add_zero] at c0
        obtain ⟨wx, hwx⟩ : ∃ wx, wx = wr.alloc (.cells #[.string q0, .slice q1 q2 q3, .int .i64 q4, .int .i64 q5] 48) := ⟨_, rfl⟩
        have hal : Below wr.heap.size wr wx := by rw [hwx]; exact below_alloc wr _
        have hgx : wx.heap[wr.heap.size]? = some (.cells #[.string q0, .slice q1 q2 q3, .int .i64 q4, .int .i64 q5] 48) := by rw [hwx]; exact blk_new wr _
        have hmem := List.mem_of_getElem? hx
        have HEN : Hid (Calls Tryz.prog 25 #[.agg #[.string q0, .slice q1 q2 q3, .int .i64 q4, .int .i64 q5]] wx fun e w' => e = .returned (lineV (enumB x) (enumT x)) ∧ Below wx.heap.size wx w') := penum_any x _ wx (hAs.below (HW.out.trans (hal.mono HW.out.size))) (by have := HWE.out x hmem; have := enum_len x; omega)
        have HBW := Lib.hid (HW.out.trans (hal.mono HW.out.size))
        have HWXE := Lib.hid hwx
        have HX := Lib.hid hx
        have HMM := Lib.hid hmem
        have HLN := Lib.hid (HLE.out (k + 1))
        have HTK := Lib.hid (flatMap_take enumT es k x hx)
        obtain ⟨Q, hQ⟩ : ∃ Q, Q = Z ++ (es.take k).flatMap enumT := ⟨_, rfl⟩
        have hq : Q.length = Z.length + ((es.take k).flatMap enumT).length := by rw [hQ, List.length_append]
        have HQ := Lib.hid hQ
        rw [← hQ]
        obtain ⟨s0, s1, s2, s3⟩ := cells4 hgx
        clear hQ hx hk' hc hAs hal hgx hwx hmem
        go_upto_region 7 with (fail)
        have hwx := HWXE.out
        rw [← hwx]
        clear hwx HWXE
        rcases hr : enumB x with _ | _
        · have HS0 := Lib.hid (HFE.out x HMM.out hr)
          rw [hr, show lineV false (enumT x) = .tuple #[.string ⟨#[]⟩, .bool false] from rfl] at HEN
          clear hr hq
          go_wp2_with (refine HEN.out.mono ?_; rintro e w5 ⟨rfl, hB5⟩)
          go_ret2
          exact ⟨by rw [HS0.out]; rfl, HBA.out.trans ((HBW.out.trans (hB5.mono HBW.out.size)).mono HBA.out.size)⟩
        · have HAX : Hid (∀ j y, j < k + 1 → es[j]? = some y → enumB y = true) := fun j y hj hy => by
            by_cases e : j = k
            · subst e
              have := HX.out.symm.trans hy
              injection this with this
              rw [← this]; exact hr
            · exact HA.out j y (by omega) hy
          have hl3 := HLN.out fun j y hj hy => HAX.out j y hj hy
          rw [hr, show lineV true (enumT x) = .tuple #[.string ⟨(enumT x).toArray⟩, .bool true] from rfl] at HEN
          have hl4 : Q.length + (enumT x).length ≤ 4611686018427387904 := by
            rw [HTK.out, List.length_append] at hl3
            omega
          have HE2 : Hid (Q ++ enumT x = Z ++ (es.take (k + 1)).flatMap enumT) := by unfold Hid; rw [HTK.out, HQ.out, List.append_assoc]
          obtain ⟨Q2, hQ2⟩ : ∃ Q2, Q2 = Q ++ enumT x := ⟨_, rfl⟩
          have hb2 := fun W => add_lists Q (enumT x) Q2 Q.toArray (enumT x).toArray rfl rfl hQ2 (by omega) W
          have HE3 : Hid (Q2 = Z ++ (es.take (k + 1)).flatMap enumT) := by unfold Hid; rw [hQ2, HE2.out]
          clear hr hQ2 hq hl3 hl4 HE2 HTK HQ HLN HA HX HMM
          generalize enumT x = tx at *
          go_wp2_with (refine HEN.out.mono ?_; rintro e w5 ⟨rfl, hB5⟩)
          go_roundw
          case rel => exact ⟨k + 1, by omega, by rw [← HE3.out], by go_num, HBW.out.trans (hB5.mono HBW.out.size), HAX⟩
          case measure => simp [intOf]; omega
      · have t1 : decide ((k : Int) < (ne : Int)) = false := decide_eq_false (by omega)
        have t2 : decide (k < ne) = false := decide_eq_false hlt
        have HALL : Hid (es.all enumB = true) := List.all_eq_true.2 fun y hy => by
          obtain ⟨j, hj⟩ := List.getElem?_of_mem hy
          exact HA.out j y (by
            have := HME.out
            rcases Nat.lt_or_ge j es.length with h' | h'
            · omega
            · rw [List.getElem?_eq_none h'] at hj; cases hj) hj
        have hkv : es.take k = es := List.take_of_length_le (by have := HME.out; omega)
        rw [hkv]
        clear hkv HA
        go_wp2_with fail
        go_meet
        exact ⟨rfl, HW.out, HALL⟩
  case rest =>
    obtain ⟨rfl, HBE, HALE⟩ := hcut
    obtain ⟨E, hE⟩ : ∃ E, E = Z ++ es.flatMap enumT := ⟨_, rfl⟩
    have hel : E.length ≤ 67108864 := by
      have := HLE.out ne fun j x _ hx => List.all_eq_true.1 HALE.out x (List.mem_of_getElem? hx)
      rw [List.take_of_length_le (by have := HME.out; omega)] at this
      rw [hE, List.length_append]; omega
    have HE := Lib.hid hE
    rw [← hE]
    clear hE
    clear g0 g1 g2 t1 t1'
    obtain ⟨g0, g1, g2⟩ := cells3s (HC.out _ HBE.out)
    go_upto_block 2 with (fail)
    go_cut [4] (fun v wx => v = .string ⟨(E ++ vs.flatMap declT).toArray⟩ ∧ Hid (Below wa.heap.size wa wx) ∧ Hid (vs.all declB = true))
    case first =>
      go_wp2_with fail
      go_loopw [4, 56] (fun out i wr => ∃ k : Nat, k ≤ nv ∧ out = .string ⟨(E ++ (vs.take k).flatMap declT).toArray⟩ ∧ i = .int .i64 k ∧ Hid (Below wa.heap.size wa wr) ∧ Hid (∀ j x, j < k → vs[j]? = some x → declB x = true)) (fun _ i _ => nv - (intOf i).toNat)
      case atStart => exact ⟨0, Nat.zero_le _, by simp, rfl, HBE.out, fun j x hj => absurd hj (by omega)⟩
      case round =>
        clear g0 g1 g2
        obtain ⟨k, hk, rfl, rfl, HW, HA⟩ := hrel
        by_cases hlt : k < nv
        · have t1 : decide ((k : Int) < (nv : Int)) = true := decide_eq_true (by omega)
          have t2 : decide (k < nv) = true := decide_eq_true hlt
          obtain ⟨x, hx⟩ := HGV.out k hlt
          rcases HKV.out with hK | ⟨b', p', rfl, hb', hk'⟩
          · exfalso; rw [hK] at hx; simp at hx
          obtain ⟨cs, hl9, hc, hAs⟩ := hk' k x hx
          obtain ⟨q0, q1, q2, q3, q4, q5, q6, q7, q8, rfl⟩ := form_dcl hAs
          have c0 := hc 0 _ rfl
          rw [← HW.out.cell (p := ⟨b', p' + k * 7 + 0, none⟩) hb'] at c0
          have c1 := hc 1 _ rfl
          rw [← HW.out.cell (p := ⟨b', p' + k * 7 + 1, none⟩) hb'] at c1
          have c2 := hc 2 _ rfl
          rw [← HW.out.cell (p := ⟨b', p' + k * 7 + 2, none⟩) hb'] at c2
          have c3 := hc 3 _ rfl
          rw [← HW.out.cell (p := ⟨b', p' + k * 7 + 3, none⟩) hb'] at c3
          have c4 := hc 4 _ rfl
          rw [← HW.out.cell (p := ⟨b', p' + k * 7 + 4, none⟩) hb'] at c4
          have c5 := hc 5 _ rfl
          rw [← HW.out.cell (p := ⟨b', p' + k * 7 + 5, none⟩) hb'] at c5
          have c6 := hc 6 _ rfl
          rw [← HW.out.cell (p := ⟨b', p' + k * 7 + 6, none⟩) hb'] at c6
          rw [Nat.add_zero] at c0
          obtain ⟨wx, hwx⟩ : ∃ wx, wx = wr.alloc (.cells #[.string q0, .string q1, .int .i64 q2, .int .i64 q3, .slice q4 q5 q6, .int .i64 q7, .int .i64 q8] 52) := ⟨_, rfl⟩
          have hal : Below wr.heap.size wr wx := by rw [hwx]; exact below_alloc wr _
          have hgx : wx.heap[wr.heap.size]? = some (.cells #[.string q0, .string q1, .int .i64 q2, .int .i64 q3, .slice q4 q5 q6, .int .i64 q7, .int .i64 q8] 52) := by rw [hwx]; exact blk_new wr _
          have hmem := List.mem_of_getElem? hx
          have HEN : Hid (Calls Tryz.prog 26 #[.agg #[.string q0, .string q1, .int .i64 q2, .int .i64 q3, .slice q4 q5 q6, .int .i64 q7, .int .i64 q8]] wx fun e w' => e = .returned (lineV (declB x) (declT x)) ∧ Below wx.heap.size wx w') := pdecl_any x _ wx (hAs.below (HW.out.trans (hal.mono HW.out.size))) (HWV.out x hmem)
          have HBW := Lib.hid (HW.out.trans (hal.mono HW.out.size))
          have HWXE := Lib.hid hwx
          have HX := Lib.hid hx
          have HMM := Lib.hid hmem
          have HLN := Lib.hid (HLV.out (k + 1))
          have HTK := Lib.hid (flatMap_take declT vs k x hx)
          obtain ⟨Q, hQ⟩ : ∃ Q, Q = E ++ (vs.take k).flatMap declT := ⟨_, rfl⟩
          have hq : Q.length = E.length + ((vs.take k).flatMap declT).length := by rw [hQ, List.length_append]
          have HQ := Lib.hid hQ
          rw [← hQ]
          obtain ⟨s0, s1, s2, s3, s4, s5, s6⟩ := cells7 hgx
          clear hQ hx hk' hc hAs hal hgx hwx hmem
          go_upto_region 15 with (fail)
          have hwx := HWXE.out
          rw [← hwx]
          clear hwx HWXE
          rcases hr : declB x with _ | _
          · have HS0 := Lib.hid (HFV.out x HMM.out hr)
            rw [hr, show lineV false (declT x) = .tuple #[.string ⟨#[]⟩, .bool false] from rfl] at HEN
            clear hr hq
            go_wp2_with (refine HEN.out.mono ?_; rintro e w5 ⟨rfl, hB5⟩)
            go_ret2
            exact ⟨by rw [HS0.out]; rfl, HBA.out.trans ((HBW.out.trans (hB5.mono HBW.out.size)).mono HBA.out.size)⟩
          · have HAX : Hid (∀ j y, j < k + 1 → vs[j]? = some y → declB y = true) := fun j y hj hy => by
              by_cases e : j = k
              · subst e
                have := HX.out.symm.trans hy
                injection this with this
                rw [← this]; exact hr
              · exact HA.out j y (by omega) hy
            have hl3 := HLN.out fun j y hj hy => HAX.out j y hj hy
            rw [hr, show lineV true (declT x) = .tuple #[.string ⟨(declT x).toArray⟩, .bool true] from rfl] at HEN
            have hl4 : Q.length + (declT x).length ≤ 4611686018427387904 := by
              rw [HTK.out, List.length_append] at hl3
              omega
            have HE2 : Hid (Q ++ declT x = E ++ (vs.take (k + 1)).flatMap declT) := by unfold Hid; rw [HTK.out, HQ.out, List.append_assoc]
            obtain ⟨Q2, hQ2⟩ : ∃ Q2, Q2 = Q ++ declT x := ⟨_, rfl⟩
            have hb2 := fun W => add_lists Q (declT x) Q2 Q.toArray (declT x).toArray rfl rfl hQ2 (by omega) W
            have HE3 : Hid (Q2 = E ++ (vs.take (k + 1)).flatMap declT) := by unfold Hid; rw [hQ2, HE2.out]
            clear hr hQ2 hq hl3 hl4 HE2 HTK HQ HLN HA HX HMM
            generalize declT x = tx at *
            go_wp2_with (refine HEN.out.mono ?_; rintro e w5 ⟨rfl, hB5⟩)
            go_roundw
            case rel => exact ⟨k + 1, by omega, by rw [← HE3.out], by go_num, HBW.out.trans (hB5.mono HBW.out.size), HAX⟩
            case measure => simp [intOf]; omega
        · have t1 : decide ((k : Int) < (nv : Int)) = false := decide_eq_false (by omega)
          have t2 : decide (k < nv) = false := decide_eq_false hlt
          have HALL : Hid (vs.all declB = true) := List.all_eq_true.2 fun y hy => by
            obtain ⟨j, hj⟩ := List.getElem?_of_mem hy
            exact HA.out j y (by
              have := HMV.out
              rcases Nat.lt_or_ge j vs.length with h' | h'
              · omega
              · rw [List.getElem?_eq_none h'] at hj; cases hj) hj
          have hkv : vs.take k = vs := List.take_of_length_le (by have := HMV.out; omega)
          rw [hkv]
          clear hkv HA
          go_wp2_with fail
          go_meet
          exact ⟨rfl, HW.out, HALL⟩
    case rest =>
      obtain ⟨rfl, HBV, HALV⟩ := hcut
      obtain ⟨V, hV⟩ : ∃ V, V = E ++ vs.flatMap declT := ⟨_, rfl⟩
      have hvl : V.length ≤ 134217728 := by
        have := HLV.out nv fun j x _ hx => List.all_eq_true.1 HALV.out x (List.mem_of_getElem? hx)
        rw [List.take_of_length_le (by have := HMV.out; omega)] at this
        rw [hV, List.length_append]; omega
      have HVT : Hid (TT = V ++ ps.flatMap procT) := by unfold Hid; rw [HTT.out, hV, HE.out, HZ.out]; simp
      rw [← hV]
      clear hV HE HZ HZ0 HTT HKE HKV HGE HGV HWE HWV HLE HLV HFE HFV HNE HNV HNP HBE
      clear g0 g1 g2 t2 t2'
      obtain ⟨g0, g1, g2⟩ := cells3s (HC.out _ HBV.out)
      go_wp2_with fail
      go_loopw [4, 74] (fun out i wr => ∃ k : Nat, k ≤ np ∧ out = .string ⟨(V ++ (ps.take k).flatMap procT).toArray⟩ ∧ i = .int .i64 k ∧ Hid (Below wa.heap.size wa wr) ∧ Hid (∀ j x, j < k → ps[j]? = some x → procB x = true)) (fun _ i _ => np - (intOf i).toNat)
      case atStart => exact ⟨0, Nat.zero_le _, by simp, rfl, HBV.out, fun j x hj => absurd hj (by omega)⟩
      case round =>
        clear g0 g1 g2
        obtain ⟨k, hk, rfl, rfl, HW, HA⟩ := hrel
        by_cases hlt : k < np
        · have t1 : decide ((k : Int) < (np : Int)) = true := decide_eq_true (by omega)
          have t2 : decide (k < np) = true := decide_eq_true hlt
          obtain ⟨x, hx⟩ := HGP.out k hlt
          rcases HKP.out with hK | ⟨b', p', rfl, hb', hk'⟩
          · exfalso; rw [hK] at hx; simp at hx
          obtain ⟨cs, hl9, hc, v, pl, pc, rfl, hnl, Aw, cw, rfl, hmr, hcr, hAr⟩ := hk' k x hx
          have hmem := List.mem_of_getElem? hx
          have hwp := HWP.out x hmem
          have HFX : Hid (procB x = false → S = false) := fun e => HFP.out x hmem e
          have HTK := Lib.hid (flatMap_take procT ps k x hx)
          have HX := Lib.hid hx
          clear hx hk' hmem
          obtain ⟨nm, rs⟩ := x
          unfold wtP at hwp
          dsimp only at hnl hmr hAr hc hwp
          have c0 := hc 0 _ rfl
          have c1 := hc 1 _ rfl
          have c2 := hc 2 _ rfl
          have c3 := hc 3 _ rfl
          rw [← HW.out.cell (p := ⟨b', p' + k * 4 + 0, none⟩) hb'] at c0
          rw [← HW.out.cell (p := ⟨b', p' + k * 4 + 1, none⟩) hb'] at c1
          rw [← HW.out.cell (p := ⟨b', p' + k * 4 + 2, none⟩) hb'] at c2
          rw [← HW.out.cell (p := ⟨b', p' + k * 4 + 3, none⟩) hb'] at c3
          rw [Nat.add_zero] at c0
          have HPE : Hid (procB ⟨nm, rs⟩ = (nameB nm && (decide (rs.length ≤ 32) && rs.all ruleB))) := rfl
          have HPT : Hid (procT ⟨nm, rs⟩ = [112, 114, 111, 99, 101, 115, 115, 32] ++ nm ++ [32, 123, 10] ++ rs.flatMap ruleT ++ [125, 10]) := rfl
          obtain ⟨wx, hwx⟩ : ∃ wx, wx = wr.alloc (.cells #[.string ⟨nm.toArray⟩, .slice Aw rs.length cw, .int .i64 pl, .int .i64 pc] 36) := ⟨_, rfl⟩
          have hal : Below wr.heap.size wr wx := by rw [hwx]; exact below_alloc wr _
          have hgx : wx.heap[wr.heap.size]? = some (.cells #[.string ⟨nm.toArray⟩, .slice Aw rs.length cw, .int .i64 pl, .int .i64 pc] 36) := by rw [hwx]; exact blk_new wr _
          have hltx : wr.heap.size < wx.heap.size := by rw [hwx]; simp
          have HCX : Hid (∀ W, Below wx.heap.size wx W → W.heap[wr.heap.size]? = some (.cells #[.string ⟨nm.toArray⟩, .slice Aw rs.length cw, .int .i64 pl, .int .i64 pc] 36)) := fun W hW => (hW.block _ hltx).trans hgx
          have HN := Lib.hid (pname_any nm wx hnl)
          have HKR := Lib.hid hAr
          have HGR : Hid (∀ k, k < rs.length → ∃ x, rs[k]? = some x) := fun k hk => get_el hk
          have HWR : Hid (∀ x ∈ rs, wtR x ≤ 1048576) := fun x hx => by have := sum_mem wtR rs x hx; omega
          have HLR : Hid (∀ n, (∀ j x, j < n → rs[j]? = some x → ruleB x = true) → ((rs.take n).flatMap ruleT).length ≤ 67108864) := fun n hn => by
            have := flat_take_len ruleT wtR rs n fun j x hj hx => rule_len x (hn j x hj hx)
            omega
          have HFR : Hid (∀ x, x ∈ rs → ruleB x = false → S = false) := fun x hx hf => HFX.out (by rw [HPE.out, all_no hx hf]; simp)
          have HBW := Lib.hid (HW.out.trans (hal.mono HW.out.size))
          have HWXE := Lib.hid hwx
          have HLN := Lib.hid (HLP.out k fun j y hj hy => HA.out j y hj hy)
          obtain ⟨Q, hQ⟩ : ∃ Q, Q = V ++ (ps.take k).flatMap procT := ⟨_, rfl⟩
          have hq : Q.length ≤ 201326592 := by have := HLN.out; rw [hQ, List.length_append]; omega
          have HQ := Lib.hid hQ
          rw [← hQ]
          obtain ⟨s0, s1, s2, s3⟩ := cells4 hgx
          obtain ⟨nr, hnr⟩ : ∃ n, n = rs.length := ⟨_, rfl⟩
          have HMR := Lib.hid hnr
          rw [← hnr] at hmr c1 s1 HCX HGR HWXE HPE
          clear hQ hc hAr hal hgx hwx hltx hnl hnr HLN
          obtain ⟨H1, hH1⟩ : ∃ H1, H1 = [112, 114, 111, 99, 101, 115, 115, 32] ++ nm := ⟨_, rfl⟩
          obtain ⟨H2, hH2⟩ : ∃ H2, H2 = H1 ++ [32, 123, 10] := ⟨_, rfl⟩
          obtain ⟨QP, hQP⟩ : ∃ QP, QP = Q ++ H2 := ⟨_, rfl⟩
          have hh1 : H1.length = nm.length + 8 := by rw [hH1, List.length_append]; simp only [List.length_cons, List.length_nil]; omega
          have hh2 : H2.length = nm.length + 11 := by rw [hH2, List.length_append]; simp only [List.length_cons, List.length_nil]; omega
          have hqpl : QP.length ≤ 205326592 := by rw [hQP, List.length_append]; omega
          have ha1 := fun W => add_lists [112, 114, 111, 99, 101, 115, 115, 32] nm H1 #[112, 114, 111, 99, 101, 115, 115, 32] nm.toArray rfl rfl hH1 (by simp; omega) W
          have ha2 := fun W => add_lists H1 [32, 123, 10] H2 H1.toArray #[32, 123, 10] rfl rfl hH2 (by simp; omega) W
          have ha3 := fun W => add_lists Q H2 QP Q.toArray H2.toArray rfl rfl hQP (by omega) W
          have HEP : Hid ((QP ++ rs.flatMap ruleT) ++ [125, 10] = V ++ (ps.take (k + 1)).flatMap procT) := by
            unfold Hid; rw [HTK.out, HPT.out, hQP, hH2, hH1, HQ.out]; simp only [List.append_assoc]
          have hNE : nameOk nm = nameB nm := rfl
          clear hH1 hH2 hQP hh1 hh2 hq HQ HTK HPT hwp
          generalize nameB nm = N at *
          generalize nm.toArray = nb at *
          go_upto_region 23 with (fail)
          have hwx := HWXE.out
          rw [← hwx]
          clear hwx HWXE
          rcases N with _ | _
          · have H3 : Hid (S = false) := HFX.out (by rw [HPE.out]; rfl)
            clear ha1 ha2 ha3
            go_wp2_with (refine HN.out.mono ?_; rintro e w5 ⟨rfl, hB5⟩)
            go_ret2
            exact ⟨by rw [H3.out]; rfl, HBA.out.trans ((HBW.out.trans (hB5.mono HBW.out.size)).mono HBA.out.size)⟩
          by_cases h32 : 32 < nr
          · have t5 : decide ((32 : Int) < (nr : Int)) = true := decide_eq_true (by omega)
            have t5' : decide (32 < nr) = true := decide_eq_true h32
            have H3 : Hid (S = false) := HFX.out (by rw [HPE.out, decide_eq_false (by omega : ¬ nr ≤ 32)]; rfl)
            clear ha1 ha2 ha3
            go_wp2_with fail
            refine HN.out.mono ?_
            rintro e w5 ⟨rfl, hB5⟩
            have HB5 := Lib.hid hB5
            clear c0 c1 c2 c3 s0 s1 s2 s3
            obtain ⟨c0, c1, c2, c3⟩ := cells4 (HCX.out w5 hB5)
            clear hB5
            go_wp2_with fail
            go_ret2
            exact ⟨by rw [H3.out]; rfl, HBA.out.trans ((HBW.out.trans (HB5.out.mono HBW.out.size)).mono HBA.out.size)⟩
          have t5 : decide ((32 : Int) < (nr : Int)) = false := decide_eq_false (by omega)
          have t5' : decide (32 < nr) = false := decide_eq_false h32
          have HPY : Hid (rs.all ruleB = true → procB ⟨nm, rs⟩ = true) := fun e => by rw [HPE.out, e, decide_eq_true (by omega : nr ≤ 32)]; rfl
          clear HPE HFX
          go_wp2_with fail
          refine HN.out.mono ?_
          rintro e w5 ⟨rfl, hB5⟩
          have HB5 := Lib.hid hB5
          clear c0 c1 c2 c3 s0 s1 s2 s3
          obtain ⟨c0, c1, c2, c3⟩ := cells4 (HCX.out w5 hB5)
          clear hB5 HN
          have HB3 : Hid (Below wa.heap.size wa w5) := HBW.out.trans (HB5.out.mono HBW.out.size)
          go_upto_block 6 with (fail)
          go_cut [4] (fun v wx => v = .string ⟨(QP ++ rs.flatMap ruleT).toArray⟩ ∧ Hid (Below wa.heap.size wa wx) ∧ Hid (rs.all ruleB = true))
          case first =>
            go_wp2_with fail
            go_loopw [4, 97] (fun out i wr => ∃ k : Nat, k ≤ nr ∧ out = .string ⟨(QP ++ (rs.take k).flatMap ruleT).toArray⟩ ∧ i = .int .i64 k ∧ Hid (Below wa.heap.size wa wr) ∧ Hid (∀ j x, j < k → rs[j]? = some x → ruleB x = true)) (fun _ i _ => nr - (intOf i).toNat)
            case atStart => exact ⟨0, Nat.zero_le _, by simp, rfl, HB3.out, fun j x hj => absurd hj (by omega)⟩
            case round =>
              clear c0 c1 c2 c3
              obtain ⟨k, hk, rfl, rfl, HW, HA⟩ := hrel
              by_cases hlt : k < nr
              · have t1 : decide ((k : Int) < (nr : Int)) = true := decide_eq_true (by omega)
                have t2 : decide (k < nr) = true := decide_eq_true hlt
                obtain ⟨x, hx⟩ := HGR.out k hlt
                rcases HKR.out with hK | ⟨b', p', rfl, hb', hk'⟩
                · exfalso; rw [hK] at hx; simp at hx
                obtain ⟨cs, hl9, hc, hAs⟩ := hk' k x hx
                obtain ⟨q0, q1, q2, q3, q4, q5, q6, q7, q8, q9, q10, rfl⟩ := form_rul hAs
                have c0 := hc 0 _ rfl
                rw [← HW.out.cell (p := ⟨b', p' + k * 7 + 0, none⟩) hb'] at c0
                have c1 := hc 1 _ rfl
                rw [← HW.out.cell (p := ⟨b', p' + k * 7 + 1, none⟩) hb'] at c1
                have c2 := hc 2 _ rfl
                rw [← HW.out.cell (p := ⟨b', p' + k * 7 + 2, none⟩) hb'] at c2
                have c3 := hc 3 _ rfl
                rw [← HW.out.cell (p := ⟨b', p' + k * 7 + 3, none⟩) hb'] at c3
                have c4 := hc 4 _ rfl
                rw [← HW.out.cell (p := ⟨b', p' + k * 7 + 4, none⟩) hb'] at c4
                have c5 := hc 5 _ rfl
                rw [← HW.out.cell (p := ⟨b', p' + k * 7 + 5, none⟩) hb'] at c5
                have c6 := hc 6 _ rfl
                rw [← HW.out.cell (p := ⟨b', p' + k * 7 + 6, none⟩) hb'] at c6
                rw [Nat.add_zero] at c0
                obtain ⟨wx, hwx⟩ : ∃ wx, wx = wr.alloc (.cells #[.int .i64 q0, .int .i64 q1, .string q2, .slice q3 q4 q5, .int .i64 q6, .int .i64 q7, .slice q8 q9 q10] 76) := ⟨_, rfl⟩
                have hal : Below wr.heap.size wr wx := by rw [hwx]; exact below_alloc wr _
                have hgx : wx.heap[wr.heap.size]? = some (.cells #[.int .i64 q0, .int .i64 q1, .string q2, .slice q3 q4 q5, .int .i64 q6, .int .i64 q7, .slice q8 q9 q10] 76) := by rw [hwx]; exact blk_new wr _
                have hmem := List.mem_of_getElem? hx
                have HEN : Hid (Calls Tryz.prog 28 #[.agg #[.int .i64 q0, .int .i64 q1, .string q2, .slice q3 q4 q5, .int .i64 q6, .int .i64 q7, .slice q8 q9 q10]] wx fun e w' => e = .returned (lineV (ruleB x) (ruleT x)) ∧ Below wx.heap.size wx w') := prule_any x _ wx (hAs.below (HW.out.trans (hal.mono HW.out.size))) (HWR.out x hmem)
                have HBW := Lib.hid (HW.out.trans (hal.mono HW.out.size))
                have HWXE := Lib.hid hwx
                have HX := Lib.hid hx
                have HMM := Lib.hid hmem
                have HLN := Lib.hid (HLR.out (k + 1))
                have HTK := Lib.hid (flatMap_take ruleT rs k x hx)
                obtain ⟨Q, hQ⟩ : ∃ Q, Q = QP ++ (rs.take k).flatMap ruleT := ⟨_, rfl⟩
                have hq : Q.length = QP.length + ((rs.take k).flatMap ruleT).length := by rw [hQ, List.length_append]
                have HQ := Lib.hid hQ
                rw [← hQ]
                obtain ⟨s0, s1, s2, s3, s4, s5, s6⟩ := cells7 hgx
                clear hQ hx hk' hc hAs hal hgx hwx hmem
                go_upto_region 29 with (fail)
                have hwx := HWXE.out
                rw [← hwx]
                clear hwx HWXE
                rcases hr : ruleB x with _ | _
                · have HS0 := Lib.hid (HFR.out x HMM.out hr)
                  rw [hr, show lineV false (ruleT x) = .tuple #[.string ⟨#[]⟩, .bool false] from rfl] at HEN
                  clear hr hq
                  go_wp2_with (refine HEN.out.mono ?_; rintro e w5 ⟨rfl, hB5⟩)
                  go_ret2
                  exact ⟨by rw [HS0.out]; rfl, HBA.out.trans ((HBW.out.trans (hB5.mono HBW.out.size)).mono HBA.out.size)⟩
                · have HAX : Hid (∀ j y, j < k + 1 → rs[j]? = some y → ruleB y = true) := fun j y hj hy => by
                    by_cases e : j = k
                    · subst e
                      have := HX.out.symm.trans hy
                      injection this with this
                      rw [← this]; exact hr
                    · exact HA.out j y (by omega) hy
                  have hl3 := HLN.out fun j y hj hy => HAX.out j y hj hy
                  rw [hr, show lineV true (ruleT x) = .tuple #[.string ⟨(ruleT x).toArray⟩, .bool true] from rfl] at HEN
                  have hl4 : Q.length + (ruleT x).length ≤ 4611686018427387904 := by
                    rw [HTK.out, List.length_append] at hl3
                    omega
                  have HE2 : Hid (Q ++ ruleT x = QP ++ (rs.take (k + 1)).flatMap ruleT) := by unfold Hid; rw [HTK.out, HQ.out, List.append_assoc]
                  obtain ⟨Q2, hQ2⟩ : ∃ Q2, Q2 = Q ++ ruleT x := ⟨_, rfl⟩
                  have hb2 := fun W => add_lists Q (ruleT x) Q2 Q.toArray (ruleT x).toArray rfl rfl hQ2 (by omega) W
                  have HE3 : Hid (Q2 = QP ++ (rs.take (k + 1)).flatMap ruleT) := by unfold Hid; rw [hQ2, HE2.out]
                  clear hr hQ2 hq hl3 hl4 HE2 HTK HQ HLN HA HX HMM
                  generalize ruleT x = tx at *
                  go_wp2_with (refine HEN.out.mono ?_; rintro e w5 ⟨rfl, hB5⟩)
                  go_roundw
                  case rel => exact ⟨k + 1, by omega, by rw [← HE3.out], by go_num, HBW.out.trans (hB5.mono HBW.out.size), HAX⟩
                  case measure => simp [intOf]; omega
              · have t1 : decide ((k : Int) < (nr : Int)) = false := decide_eq_false (by omega)
                have t2 : decide (k < nr) = false := decide_eq_false hlt
                have HALL : Hid (rs.all ruleB = true) := List.all_eq_true.2 fun y hy => by
                  obtain ⟨j, hj⟩ := List.getElem?_of_mem hy
                  exact HA.out j y (by
                    have := HMR.out
                    rcases Nat.lt_or_ge j rs.length with h' | h'
                    · omega
                    · rw [List.getElem?_eq_none h'] at hj; cases hj) hj
                have hkv : rs.take k = rs := List.take_of_length_le (by have := HMR.out; omega)
                rw [hkv]
                clear hkv HA
                go_wp2_with fail
                go_meet
                exact ⟨rfl, HW.out, HALL⟩
          case rest =>
            obtain ⟨rfl, HBR, HALR⟩ := hcut
            obtain ⟨QR, hQR⟩ : ∃ QR, QR = QP ++ rs.flatMap ruleT := ⟨_, rfl⟩
            have hrl : QR.length ≤ 305326592 := by
              have := HLR.out nr fun j x _ hx => List.all_eq_true.1 HALR.out x (List.mem_of_getElem? hx)
              rw [List.take_of_length_le (by have := HMR.out; omega)] at this
              rw [hQR, List.length_append]; omega
            obtain ⟨Q2, hQ2⟩ : ∃ Q2, Q2 = QR ++ [125, 10] := ⟨_, rfl⟩
            have hb1 := fun W => add_lists QR [125, 10] Q2 QR.toArray #[125, 10] rfl rfl hQ2 (by simp; omega) W
            have HE3 : Hid (Q2 = V ++ (ps.take (k + 1)).flatMap procT) := by unfold Hid; rw [hQ2, hQR, HEP.out]
            have HAX : Hid (∀ j y, j < k + 1 → ps[j]? = some y → procB y = true) := fun j y hj hy => by
              by_cases e : j = k
              · subst e
                have := HX.out.symm.trans hy
                injection this with this
                rw [← this]; exact HPY.out HALR.out
              · exact HA.out j y (by omega) hy
            rw [← hQR]
            clear hQR hQ2 HEP HA ha1 ha2 ha3 HLR HWR HGR HKR HFR c0 c1 c2 c3
            go_wp2_with fail
            go_roundw
            case rel => exact ⟨k + 1, by omega, by rw [← HE3.out], by go_num, HBR.out, HAX⟩
            case measure => simp [intOf]; omega
        · have t1 : decide ((k : Int) < (np : Int)) = false := decide_eq_false (by omega)
          have t2 : decide (k < np) = false := decide_eq_false hlt
          have hall : ps.all procB = true := List.all_eq_true.2 fun y hy => by
            obtain ⟨j, hj⟩ := List.getElem?_of_mem hy
            exact HA.out j y (by
              have := HMP.out
              rcases Nat.lt_or_ge j ps.length with h' | h'
              · omega
              · rw [List.getElem?_eq_none h'] at hj; cases hj) hj
          have hkv : ps.take k = ps := List.take_of_length_le (by have := HMP.out; omega)
          have HST : Hid (S = true) := HSY.out (by omega) (by omega) (by omega) HALE.out HALV.out hall
          rw [hkv]
          clear hall hkv HA HLP HWP HSZ
          go_wp2_with fail
          go_ret2
          exact ⟨by rw [HST.out, HVT.out]; rfl, HBA.out.trans (HW.out.mono HBA.out.size)⟩
end Go.Proofs.YtnlepdkbcjjkdaaGreatDoor
