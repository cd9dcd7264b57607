/- ProofHolds is true: the statement Rows.ProofHoldsSaid, without a condition. -/
import Derived.Test.YtmegplcepcacgaaGreatPGrt
import Derived.Test.YtmegplcepcacgaaGreatPrfH
import Derived.Test.YtmegplcepcacgaaGreatRows
namespace Go.Proofs.YtmegplcepcacgaaGreat.PHolds
set_option maxRecDepth 100000
open Go.ChangeShapes Go.WideShapes Go.ChangeAt Go.RowKit LitM TrailM EngM CnfP

theorem varZ_minus (y : Int) : varZ (-y) = varZ y := by
  by_cases h : LitM.one y = true
  · rcases (one_iff y).1 h with ⟨h1, h2⟩ | ⟨h1, h2⟩
    · rw [varZ_neg (l := -y) (by omega) (by omega), varZ_pos (by omega) (by omega)]; omega
    · rw [varZ_pos (l := -y) (by omega) (by omega), varZ_neg (by omega) (by omega)]
  · have h' : ¬ LitM.one (-y) = true := fun e => h ((one_iff y).2 (by rcases (one_iff (-y)).1 e with ⟨h1, h2⟩ | ⟨h1, h2⟩ <;> omega))
    unfold varZ
    rw [if_neg h, if_neg h']
theorem vals_true (bs : List Bool) : Vals fun l => trueB bs l = true := by
  have key : ∀ y, LitM.one y = true → trueB bs (-y) = !trueB bs y := fun y hy => by
    have h0 : y ≠ 0 := by rcases (one_iff y).1 hy with ⟨h1, h2⟩ | ⟨h1, h2⟩ <;> omega
    unfold trueB
    rw [varZ_minus]
    by_cases hp : 0 < y
    · rw [decide_eq_true hp, decide_eq_false (show ¬ 0 < -y by omega)]
      cases bs.getD (varZ y - 1).toNat false <;> rfl
    · rw [decide_eq_false hp, decide_eq_true (show 0 < -y by omega)]
      cases bs.getD (varZ y - 1).toNat false <;> rfl
  refine ⟨fun y hy t1 t2 => ?_, fun y hy => ?_⟩
  · have := key y hy
    rw [t1, t2] at this
    cases this
  · have := key y hy
    cases h : trueB bs y
    · exact .inr (by rw [this, h]; rfl)
    · exact .inl rfl
theorem clauseH_iff (bs : List Bool) (c : List Int) : clauseH bs c = true ↔ TrueC (fun l => trueB bs l = true) c := by
  unfold clauseH TrueC
  rw [List.any_eq_true]
theorem falseAt_all (bs : List Bool) : ∀ cs, falseAt bs cs < 0 → ∀ c ∈ cs, clauseH bs c = true
  | [], _, c, h => by cases h
  | c0 :: r, h, c, hc => by
    have hge := falseAt_ge bs r
    unfold falseAt at h
    by_cases h1 : clauseH bs c0 = true
    · rw [if_pos h1] at h
      rcases List.mem_cons.1 hc with e | e
      · rw [e]; exact h1
      · refine falseAt_all bs r ?_ c e
        by_cases h2 : falseAt bs r = -1
        · omega
        · rw [if_neg h2] at h; omega
    · rw [if_neg h1] at h; omega
theorem fit_all {v : Int} {cs : List (List Int)} {log : List (Bool × List Int)} (h : fitB v cs [] log = true) : rightF v cs = true ∧ (∀ s ∈ log, clauseB v s.2 = true) := by
  unfold fitB at h
  simp only [Bool.and_eq_true, List.all_eq_true] at h
  exact ⟨h.1.1.1, h.2⟩
/-- What the law asks of a step. -/
theorem holds_step {v : Int} {cs : List (List Int)} {log : List (Bool × List Int)} {bs : List Bool} (hv0 : 0 ≤ v) (hv : v ≤ 30) (hbl : (bs.length : Int) = v) (hf : fitB v cs [] log = true) (hat : falseV v cs bs < 0) (hs20 : ∀ s ∈ log, s.2.length ≤ 20)
    {j : Nat} {s : Bool × List Int} (hj : log[j]? = some s) (hw : walkZ (handM cs fun _ => 0) log 0 = -1 ∨ (j : Int) < walkZ (handM cs fun _ => 0) log 0) (hg : s.1 = false) : falseV v [s.2] bs = -1 ∧ falseE v [s.2] bs = 0 := by
  obtain ⟨hr, hcl⟩ := fit_all hf
  have hmem : s ∈ log := List.mem_of_getElem? hj
  have hone : ∀ {c : List Int}, clauseB v c = true → allOne c = true := fun h => List.all_eq_true.2 fun x hx => (clauseB_all h x hx).1
  have hr1 : rightF v [s.2] = true := by
    have h1 := hs20 s hmem
    unfold rightF
    rw [decide_eq_true hv0, decide_eq_true (show v ≤ 262144 by omega), decide_eq_true (show total [s.2] ≤ 4194304 by unfold total; simp; omega)]
    simp [hcl s hmem]
  have hall : ∀ c ∈ cs, clauseB v c = true := by
    unfold rightF at hr
    simp only [Bool.and_eq_true, List.all_eq_true] at hr
    exact hr.2
  unfold falseV at hat
  rw [if_pos ⟨hbl, hr⟩] at hat
  have hcs := falseAt_all bs cs hat
  have hm := hand_true (T := fun l => trueB bs l = true) cs (fun _ => 0) (fun c hc => ⟨hone (hall c hc), (clauseH_iff bs c).1 (hcs c hc)⟩) (fun c h => absurd rfl h)
  have ht := walk_holds (vals_true bs) log _ 0 hm (fun s hs => hone (hcl s hs)) j s hj (by simpa using hw) hg
  have hc : clauseH bs s.2 = true := (clauseH_iff bs s.2).2 ht
  unfold falseV falseE
  rw [if_pos ⟨hbl, hr1⟩, if_pos ⟨hbl, hr1⟩]
  exact ⟨by simp [falseAt, hc], rfl⟩
theorem total_le : ∀ (cs : List (List Int)) (k : Nat), (∀ c ∈ cs, c.length ≤ k) → total cs ≤ cs.length * k
  | [], _, _ => by simp [total]
  | c :: r, k, h => by
    have h1 := total_le r k fun c hc => h c (List.mem_cons_of_mem _ hc)
    have h2 := h c (List.mem_cons_self ..)
    have e : total (c :: r) = c.length + total r := by unfold total; simp
    rw [e, List.length_cons, Nat.succ_mul]
    omega
theorem info_bool9 : (Tryz.prog.info? 4).map (fun i => (i.zero, i.size, i.bytes)) = some (some (.bool false), 1, 1) := by kernel_rfl
/-- A row of truth values. -/
theorem rdb_row {w : World} {g n cap : Nat} {f : Nat → Value} {bs : List Bool} (h : RowV 4 1 w g n cap f) (hl : bs.length = n) (hf : ∀ j, j < n → f j = .bool (bs.getD j false)) : RdB w w.heap.size (some ⟨g, 0, none⟩) n bs :=
  ⟨hl, fun _ => ⟨g, 0, rfl, h.lt, fun j hj => by rw [Nat.zero_add, h.cell (by omega), hf j hj]⟩⟩
theorem RdB.belo {w w' : World} {B n : Nat} {A : Option Addr} {bs : List Bool} (h : RdB w B A n bs) (hB : B ≤ w.heap.size) (hb : Below w.heap.size w w') : RdB w' w'.heap.size A n bs :=
  ⟨h.len, fun hn => by
    obtain ⟨b, o, e, hl, hc⟩ := h.at_ hn
    exact ⟨b, o, e, by have := hb.size; omega, fun j hj => (hb.cell (p := ⟨b, o + j, none⟩) (by show b < _; omega)).trans (hc j hj)⟩⟩
set_option maxHeartbeats 12800000 in
theorem walk (v : Int) (A Al : Option Addr) (n c N cn : Nat) (cs : List (List Int)) (log : List (Bool × List Int)) (x : Int) (w : World) (h : RdF w w.heap.size A n cs) (h32 : ∀ c ∈ cs, In32 c) (hA : A = none → n = 0 ∧ c = 0) (hn : n ≤ 9223372036854775807)
    (hl : RdS w w.heap.size Al N log) (hl32 : ∀ s ∈ log, In32 s.2) (hN : N ≤ 9223372036854775807) (hv0 : -9223372036854775808 ≤ v) (hv1 : v ≤ 9223372036854775807) :
    Calls Tryz.prog 4 #[.agg #[.int .i64 v, .slice A n c], .slice Al N cn, .int .u64 x] w fun e w' => e = .returned (.bool true) ∧ Below w.heap.size w w' := by
  obtain ⟨W0, hW0⟩ : ∃ W0, W0 = w.alloc (.cells #[.int .i64 v, .slice A n c] 27) := ⟨_, rfl⟩
  have hb0 : Below w.heap.size w W0 := by rw [hW0]; exact (Below.refl _ _).alloc (Nat.le_refl _) _
  have x0 : W0.cell? ⟨w.heap.size, 0, none⟩ = some (.int .i64 v) := by rw [hW0, Lib.cell_of_heap (blk_new w _)]; rfl
  have x1 : W0.cell? ⟨w.heap.size, 1, none⟩ = some (.slice A n c) := by rw [hW0, Lib.cell_of_heap (blk_new w _)]; rfl
  have hlt0 : w.heap.size < W0.heap.size := by rw [hW0]; simp
  have HX : Hid (∀ V, Below W0.heap.size W0 V → V.cell? ⟨w.heap.size, 0, none⟩ = some (.int .i64 v) ∧ V.cell? ⟨w.heap.size, 1, none⟩ = some (.slice A n c) ∧ Below w.heap.size w V) := fun V hV =>
    ⟨(hV.cell (p := ⟨w.heap.size, 0, none⟩) hlt0).trans x0, (hV.cell (p := ⟨w.heap.size, 1, none⟩) hlt0).trans x1, hb0.trans (hV.mono hb0.size)⟩
  have HR : Hid (∀ V, Below w.heap.size w V → RdF V V.heap.size A n cs ∧ RdS V V.heap.size Al N log) := fun V hV => ⟨(h.below hV).more hV.size, (hl.keep fun p hp => hV.cell hp).more hV.size⟩
  have HG : Hid (∀ V, Below W0.heap.size W0 V → Calls Tryz.prog 12 #[.agg #[.int .i64 v, .slice A n c], .slice Al N cn] V fun e w' => e = .returned (.bool (greatB v cs log)) ∧ Below W0.heap.size W0 w') := fun V hV => by
    obtain ⟨h1, h2⟩ := HR.out V (HX.out V hV).2.2
    exact (great_any h1 hA hn h2 hN).mono fun e w' ⟨a, b⟩ => ⟨a, hV.trans (b.mono hV.size)⟩
  have HPA := Lib.hid ((palive_any W0).mono fun e w' ⟨a, b⟩ => (show _ ∧ Below W0.heap.size W0 w' from ⟨a, b⟩))
  have HW0 := Lib.hid hW0
  have HB0 := Lib.hid hb0
  have HL := Lib.hid hl
  have HCL := Lib.hid h.len
  have HLL := Lib.hid hl.len
  have H32 := Lib.hid h32
  have HL32 := Lib.hid hl32
  clear h h32 hA hl hl32 hW0 hb0 x0 x1
  go_enter Tryz.func4, Tryz.ntmps4
  go_upto_region 1 with (fail)
  rw [← HW0.out]
  go_wp2_with fail
  refine HPA.out.mono ?_
  rintro e w1 ⟨rfl, hb1⟩
  obtain ⟨x0, x1, _⟩ := HX.out w1 hb1
  have HG1 := Lib.hid (HG.out w1 hb1)
  clear hb1 HPA HG
  go_wp2_with fail
  refine HG1.out.mono ?_
  rintro e w2 ⟨rfl, hb2⟩
  clear x0 x1 HG1
  obtain ⟨x0, x1, hbw2⟩ := HX.out w2 hb2
  cases hgt : greatB v cs log with
  | true =>
    have HB := Lib.hid hbw2
    clear hbw2 hgt
    go_wp2_with fail
    go_ret
    exact ⟨rfl, HB.out⟩
  | false =>
  by_cases hneg : v < 0
  · have t1 : decide (v < 0) = true := decide_eq_true hneg
    have HB := Lib.hid hbw2
    clear hbw2 hgt hneg
    go_wp2_with fail
    go_ret
    exact ⟨rfl, HB.out⟩
  have t1 : decide (v < 0) = false := decide_eq_false hneg
  by_cases hbig : 30 < v
  · have t2 : decide (30 < v) = true := decide_eq_true hbig
    have HB := Lib.hid hbw2
    clear hbw2 hgt hneg hbig
    go_wp2_with fail
    go_ret
    exact ⟨rfl, HB.out⟩
  have t2 : decide (30 < v) = false := decide_eq_false hbig
  have hgr := hgt
  unfold greatB at hgr
  simp only [Bool.or_eq_false_iff, decide_eq_false_iff_not, List.any_eq_false, Bool.not_eq_true] at hgr
  obtain ⟨⟨⟨_, gn⟩, gN⟩, gall⟩ := hgr
  have hn6 : n ≤ 60 := by have := HCL.out; omega
  have hN4 : N ≤ 40 := by have := HLL.out; omega
  have HC20 : Hid (∀ c ∈ cs, c.length ≤ 20) := fun c hc => by have := gall c (List.mem_append_left _ hc); omega
  have HS20 : Hid (∀ s ∈ log, s.2.length ≤ 20) := fun s hs => by have := gall s.2 (List.mem_append_right _ (List.mem_map_of_mem hs)); omega
  have HCk : Hid (∀ V, Below W0.heap.size W0 V → Calls Tryz.prog 8 #[.agg #[.int .i64 v, .slice A n c], .slice Al N cn] V fun e w' => e = .returned (.tuple #[.int .i64 (chkV v cs log), .int .i64 (chkE v cs log)]) ∧ Below W0.heap.size W0 w') := fun V hV => by
    obtain ⟨h1, h2⟩ := HR.out V (HX.out V hV).2.2
    exact (pcheck_any hv0 hv1 (.inl (by omega)) (by omega) (by omega) A cs h1 H32.out (fun c hc => by have := HC20.out c hc; omega) Al log h2 HL32.out (fun s hs => by have := HS20.out s hs; omega)).mono fun e w' ⟨a, b⟩ => ⟨a, hV.trans (b.mono hV.size)⟩
  have HCk2 := Lib.hid (HCk.out w2 hb2)
  obtain ⟨nv, hnv⟩ : ∃ nv : Nat, v = (nv : Int) := ⟨v.toNat, by omega⟩
  have hnv3 : nv ≤ 30 := by omega
  have HNV := Lib.hid hnv
  have HGT := Lib.hid hgt
  have HT : Hid (total cs ≤ 100000) := by
    have := total_le cs 20 HC20.out
    have := HCL.out
    unfold Hid
    omega
  clear gall gn gN hgt hb2 HCk hneg hbig hbw2
  obtain ⟨C, k1, k2, hmk⟩ := make_sl (P := Tryz.prog) 42 4 Tryz.underlying42 info_bool9 rfl (by decide) (by decide) nv (by omega)
  obtain ⟨nn, hnn⟩ : ∃ nn, nn = chkV v cs log := ⟨_, rfl⟩
  obtain ⟨ee, hee⟩ : ∃ ee, ee = chkE v cs log := ⟨_, rfl⟩
  rw [← hnn, ← hee] at HCk2
  have HNN := Lib.hid hnn
  have HEE := Lib.hid hee
  clear hnn hee
  subst hnv
  have K2 := Lib.hid k2
  clear k2
  go_wp2_with fail
  refine HCk2.out.mono ?_
  rintro e w3 ⟨rfl, hb3⟩
  clear x0 x1 HCk2
  obtain ⟨x0, x1, hbw3⟩ := HX.out w3 hb3
  have HRow : Hid (RowV 4 1 (w3.alloc (.cells C 4)) w3.heap.size nv nv fun _ => .bool false) := RowV.made (by omega) k1 (fun j hj => by rw [K2.out j hj, Nat.mod_one]; rfl)
  have HB3 := Lib.hid hb3
  clear hb3 hbw3
  obtain ⟨g, hg⟩ : ∃ g, g = w3.heap.size := ⟨_, rfl⟩
  have hgl : W0.heap.size ≤ g := by rw [hg]; exact HB3.out.size
  have HI0 : Hid (∃ bs : List Bool, bs.length = nv ∧ RowV 4 1 (w3.alloc (.cells C 4)) g nv nv fun k => .bool (bs.getD k false)) :=
    ⟨List.replicate nv false, List.length_replicate, by rw [hg]; exact HRow.out.congr fun j hj => by simp [List.getD, List.getElem?_replicate]; split <;> rfl⟩
  have HBI : Hid (Below W0.heap.size W0 (w3.alloc (.cells C 4))) := HB3.out.alloc HB3.out.size _
  go_upto_region 7 with (fail)
  rw [← hg]
  have HGG := Lib.hid hg
  clear hg HRow x0 x1
  go_wp2_with fail
  go_loopw [43] (fun u wr => ∃ j : Nat, u = .int .i64 (j : Int) ∧ j ≤ nv ∧ Hid (∃ bs : List Bool, bs.length = nv ∧ RowV 4 1 wr g nv nv fun k => .bool (bs.getD k false)) ∧ Hid (Below W0.heap.size W0 wr)) (fun u _ => nv - (intOf u).toNat)
  case atStart => exact ⟨0, rfl, by omega, HI0, HBI⟩
  case round =>
    clear HI0 HBI
    obtain ⟨j, rfl, hj, hrow, hbr⟩ := hrel
    by_cases hlt : j < nv
    · have tk : decide ((j : Int) < (nv : Int)) = true := decide_eq_true (by omega)
      have tk2 : decide (j < nv) = true := decide_eq_true hlt
      obtain ⟨bs, hbl, hr⟩ := hrow.out
      have d0 : wr.cell? ⟨g, j, none⟩ = some (.bool (bs.getD j false)) := hr.cell (by omega)
      have d1 := hr.free j
      generalize bs.getD j false = b0 at d0
      have HN : Hid (∀ b : Bool, ∃ bs : List Bool, bs.length = nv ∧ RowV 4 1 (wr.setCell ⟨g, j, none⟩ (.bool b)) g nv nv fun k => .bool (bs.getD k false)) := fun b =>
        ⟨bs.set j b, by rw [List.length_set]; exact hbl, (hr.set (by omega) (.bool b)).congr fun k hk => by
          by_cases e : k = j
          · rw [e, updV_at]; simp [List.getD, hbl, hlt]
          · rw [updV_ne _ _ e]; simp [List.getD, Ne.symm e]⟩
      have HBN : Hid (∀ b : Bool, Below W0.heap.size W0 (wr.setCell ⟨g, j, none⟩ (.bool b))) := fun b => hbr.out.setCell (p := ⟨g, j, none⟩) hgl _
      clear hr hrow hbl hbr
      go_wp2_with fail
      go_roundw
      case rel => exact ⟨j + 1, by go_num, by omega, HN.out _, HBN.out _⟩
      case measure => simp [intOf]; omega
    · have tk : decide ((j : Int) < (nv : Int)) = false := decide_eq_false (by omega)
      have tk2 : decide (j < nv) = false := decide_eq_false hlt
      obtain ⟨bs, hbl, hr⟩ := hrow.out
      obtain ⟨x0, x1, hbw⟩ := HX.out wr hbr.out
      have hrb : RdB wr wr.heap.size (some ⟨g, 0, none⟩) nv bs := rdb_row hr hbl fun _ _ => rfl
      have HFa : Hid (∀ V (A' : Option Addr) (n' c' : Nat) (cs' : List (List Int)), Below wr.heap.size wr V → RdF V V.heap.size A' n' cs' → Ok32 cs' → n' ≤ 60 → total cs' ≤ 100000 →
          Calls Tryz.prog 13 #[.agg #[.int .i64 (nv : Int), .slice A' n' c'], .slice (some ⟨g, 0, none⟩) nv nv] V fun e w' => e = .returned (.tuple #[.int .i64 (falseV nv cs' bs), .int .i64 (falseE nv cs' bs)]) ∧ Below V.heap.size V w') := fun V A' n' c' cs' hV hr' ho hn' ht =>
        (rfalse_any (nv : Int) A' n' c' cs' (some ⟨g, 0, none⟩) nv nv bs V hr' ho (by omega) ht (RdB.belo hrb (Nat.le_refl _) hV) (by omega))
      have HOk : Hid (Ok32 cs) := Ok32.of fun c hc => ⟨by have := HC20.out c hc; omega, H32.out c hc⟩
      have HF1 := Lib.hid (HFa.out wr A n c cs (Below.refl _ _) (HR.out wr hbw).1 HOk.out hn6 HT.out)
      have HY : Hid (∀ V, Below wr.heap.size wr V → V.cell? ⟨w.heap.size, 0, none⟩ = some (.int .i64 (nv : Int)) ∧ Below w.heap.size w V ∧ RdS V V.heap.size Al N log) := fun V hV => by
        obtain ⟨y0, _, y2⟩ := HX.out V (hbr.out.trans (hV.mono hbr.out.size))
        exact ⟨y0, y2, (HR.out V y2).2⟩
      have HBL : Hid ((bs.length : Int) = (nv : Int)) := by unfold Hid; rw [hbl]
      obtain ⟨a1, ha1⟩ : ∃ a1, a1 = falseV nv cs bs := ⟨_, rfl⟩
      obtain ⟨g1, hg1⟩ : ∃ g1, g1 = falseE nv cs bs := ⟨_, rfl⟩
      rw [← ha1, ← hg1] at HF1
      have HA1 := Lib.hid ha1
      have HG1 := Lib.hid hg1
      clear hr hrow hbl hbr hrb hbw ha1 hg1 HX HR
      generalize wr = V0 at *
      clear hj hlt
      have hll : log.length = N := HLL.out
      go_wp2_with fail
      refine HF1.out.mono ?_
      rintro e w5 ⟨rfl, hb5⟩
      have HB5 := Lib.hid hb5
      clear x0 x1 tk tk2 HF1 hb5
      have hbW5 : Below w.heap.size w w5 := (HY.out w5 HB5.out).2.1
      by_cases hfit : fitB nv cs [] log = true
      rotate_left 1
      · have he : ee = 91 := by rw [HEE.out]; unfold chkE; rw [if_neg hfit]
        subst he
        have HB := Lib.hid hbW5
        clear hfit hbW5 HEE
        go_wp2_with fail
        go_ret
        exact ⟨rfl, HB.out⟩
      have he : ee = 0 := by rw [HEE.out]; unfold chkE; rw [if_pos hfit]
      have hn0 : nn = walkZ (handM cs fun _ => 0) log 0 := by rw [HNN.out]; unfold chkV; rw [if_pos hfit]
      have hg0 : g1 = 0 := by rw [HG1.out]; unfold falseE; rw [if_pos ⟨HBL.out, (fit_all hfit).1⟩]
      subst he
      subst hg0
      by_cases hat : 0 ≤ a1
      · have ta : decide (0 ≤ a1) = true := decide_eq_true hat
        have HB := Lib.hid hbW5
        clear hfit hbW5 HEE hat HG1 HNN hn0
        go_wp2_with fail
        go_ret
        exact ⟨rfl, HB.out⟩
      have ta : decide (0 ≤ a1) = false := decide_eq_false hat
      have HST : Hid (∀ (j : Nat) (s : Bool × List Int), log[j]? = some s → (nn = -1 ∨ (j : Int) < nn) → s.1 = false → falseV nv [s.2] bs = -1 ∧ falseE nv [s.2] bs = 0) := fun j s hj hw hg =>
        holds_step (by omega) (by omega) HBL.out hfit (by rw [← HA1.out]; omega) HS20.out hj (by rw [← hn0]; exact hw) hg
      have HWF : Hid (nn = -1 ∨ 0 ≤ nn) := by
        unfold Hid
        rw [hn0]
        rcases walk_from log (handM cs fun _ => 0) 0 with e | e
        · exact .inl e
        · exact .inr (by simpa using e)
      clear hfit hat HA1 HG1 HNN hn0 HEE hbW5 hll
      go_wp2_with fail
      go_loopw [73] (fun u wr => ∃ j : Nat, u = .int .i64 (j : Int) ∧ j ≤ N ∧ Hid (Below V0.heap.size V0 wr)) (fun u _ => N - (intOf u).toNat)
      case atStart => exact ⟨0, rfl, by omega, HB5⟩
      case round =>
        clear HB5
        obtain ⟨j, rfl, hj, hbr⟩ := hrel
        obtain ⟨x0, hbw, hls⟩ := HY.out wr hbr.out
        by_cases hlt : j < N
        · have tk : decide ((j : Int) < (N : Int)) = true := decide_eq_true (by omega)
          have tk2 : decide (j < N) = true := decide_eq_true hlt
          obtain ⟨b, o, hA, hb, hc⟩ := hls.at_ (by omega)
          subst hA
          obtain ⟨Aj, nj, cj, d0, d1, hrd⟩ := hc j hlt
          have hjl : j < log.length := by rw [HLL.out]; exact hlt
          obtain ⟨s, hs⟩ : ∃ s, s = log.getD j (false, []) := ⟨_, rfl⟩
          have hsg : log[j]? = some s := by rw [hs, List.getD, List.getElem?_eq_getElem hjl]; rfl
          rw [← hs] at d0 hrd
          have hmem : s ∈ log := List.mem_of_getElem? hsg
          obtain ⟨gone, xs⟩ := s
          simp only at d0 hrd
          obtain ⟨W2, hW2⟩ : ∃ W2, W2 = wr.alloc (.cells #[.bool gone, .slice Aj nj cj] 37) := ⟨_, rfl⟩
          have hbw2 : Below wr.heap.size wr W2 := by rw [hW2]; exact (Below.refl _ _).alloc (Nat.le_refl _) _
          have hbW2 : Below V0.heap.size V0 W2 := hbr.out.trans (hbw2.mono hbr.out.size)
          have hl2 : wr.heap.size < W2.heap.size := by rw [hW2]; simp
          have z0 : W2.cell? ⟨wr.heap.size, 0, none⟩ = some (.bool gone) := by rw [hW2, Lib.cell_of_heap (blk_new wr _)]; rfl
          have z1 : W2.cell? ⟨wr.heap.size, 1, none⟩ = some (.slice Aj nj cj) := by rw [hW2, Lib.cell_of_heap (blk_new wr _)]; rfl
          obtain ⟨y0, hbwW, _⟩ := HY.out W2 hbW2
          have HBW := Lib.hid hbwW
          have HW2 := Lib.hid hW2
          by_cases hstop : 0 ≤ nn ∧ nn ≤ (j : Int)
          · have u1 : decide (0 ≤ nn) = true := decide_eq_true hstop.1
            have u2 : decide (nn ≤ (j : Int)) = true := decide_eq_true hstop.2
            clear hstop hW2 hbW2 hbw2 hrd hc hls hbw hbr hs hsg hmem HST HWF HFa HY
            go_upto_region 18 with (fail)
            rw [← HW2.out]
            go_wp2_with fail
            go_ret
            exact ⟨rfl, HBW.out⟩
          have hu : decide (0 ≤ nn) = false ∨ (decide (0 ≤ nn) = true ∧ decide (nn ≤ (j : Int)) = false) := by
            by_cases e : 0 ≤ nn
            · exact .inr ⟨decide_eq_true e, decide_eq_false fun e2 => hstop ⟨e, e2⟩⟩
            · exact .inl (decide_eq_false e)
          have hw : nn = -1 ∨ (j : Int) < nn := by
            rcases HWF.out with e | e
            · exact .inl e
            · exact .inr (Int.not_le.1 fun e2 => hstop ⟨e, e2⟩)
          have HSj : Hid (gone = false → falseV nv [xs] bs = -1 ∧ falseE nv [xs] bs = 0) := fun hg => HST.out j (gone, xs) hsg hw hg
          have hxl : xs.length ≤ 20 := HS20.out _ hmem
          have hx32 : In32 xs := HL32.out _ hmem
          obtain ⟨W3, hW3⟩ : ∃ W3, W3 = W2.alloc (.cells #[.slice Aj nj cj] 32) := ⟨_, rfl⟩
          have hbw3 : Below W2.heap.size W2 W3 := by rw [hW3]; exact (Below.refl _ _).alloc (Nat.le_refl _) _
          have hbW3 : Below V0.heap.size V0 W3 := hbW2.trans (hbw3.mono hbW2.size)
          have hb3' : Below wr.heap.size wr W3 := hbw2.trans (hbw3.mono hbw2.size)
          have k3 : W3.heap[W2.heap.size]? = some (.cells #[.slice Aj nj cj] 32 (0, 0)) := by rw [hW3]; exact blk_new W2 _
          have hr3 : RdF W3 W3.heap.size (some ⟨W2.heap.size, 0, none⟩) 1 [xs] := ⟨rfl, fun _ => ⟨W2.heap.size, 0, rfl, lt_of_heap k3, fun i hi => by
            obtain rfl : i = 0 := by omega
            exact ⟨Aj, nj, cj, by rw [Lib.cell_of_heap k3]; rfl, (hrd.below hb3').more hb3'.size⟩⟩⟩
          have HFj := Lib.hid (HFa.out W3 (some ⟨W2.heap.size, 0, none⟩) 1 1 [xs] hbW3 hr3 (Ok32.of fun c hc => by
            rw [List.mem_singleton] at hc; subst hc; exact ⟨by omega, hx32⟩) (by omega) (by unfold total; simp; omega))
          obtain ⟨k1, hk1⟩ : ∃ k1, k1 = falseV nv [xs] bs := ⟨_, rfl⟩
          obtain ⟨h1, hh1⟩ : ∃ h1, h1 = falseE nv [xs] bs := ⟨_, rfl⟩
          rw [← hk1, ← hh1] at HFj HSj
          have z3 : W3.cell? ⟨wr.heap.size, 0, none⟩ = some (.bool gone) := (hbw3.cell (p := ⟨wr.heap.size, 0, none⟩) hl2).trans z0
          have HZ : Hid (∀ V, Below W3.heap.size W3 V → V.cell? ⟨wr.heap.size, 0, none⟩ = some (.bool gone)) := fun V hV => (hV.cell (p := ⟨wr.heap.size, 0, none⟩) (by have := hbw3.size; show wr.heap.size < _; omega)).trans z3
          have HW3 := Lib.hid hW3
          have HBW3 := Lib.hid hbW3
          clear hstop hW2 hW3 hbW2 hbw2 hbw3 hrd hc hls hbw hs hsg hmem HST HWF HY hr3 k3 hb3' hk1 hh1 hxl hx32 hw z3 hbr hbW3
          rcases hu with u1 | ⟨u1, u2⟩
          all_goals
            go_upto_region 18 with (fail)
            rw [← HW2.out]
            go_wp2_with fail
            rw [← HW3.out]
            refine HFj.out.mono ?_
            rintro e w6 ⟨rfl, hb6⟩
            have z6 := HZ.out w6 hb6
            have HB6 : Hid (Below V0.heap.size V0 w6) := HBW3.out.trans (hb6.mono HBW3.out.size)
            clear hb6 HFj HZ z0 z1 y0 HW3 HW2
            cases gone with
            | true =>
              clear HSj
              go_wp2_with fail
              go_roundw
              case rel => exact ⟨j + 1, by go_num, by omega, HB6⟩
              case measure => simp [intOf]; omega
            | false =>
              obtain ⟨rfl, rfl⟩ := HSj.out rfl
              clear HSj
              go_wp2_with fail
              go_roundw
              case rel => exact ⟨j + 1, by go_num, by omega, HB6⟩
              case measure => simp [intOf]; omega
        · have tk : decide ((j : Int) < (N : Int)) = false := decide_eq_false (by omega)
          have tk2 : decide (j < N) = false := decide_eq_false hlt
          have HB := Lib.hid hbw
          clear hbw hls hbr
          go_wp2_with fail
          go_ret
          exact ⟨rfl, HB.out⟩
theorem own_knob : ownKnob Tryz.prog.godebug = none := by kernel_rfl
set_option maxHeartbeats 800000 in
set_option maxRecDepth 100000 in
theorem lifted (os : Os) (started : os.Started) (H : Type) (enc : TypeId × Value → H) :
    ReturnsInHanded {} Tryz.checked os 4 .any (Rows.proofHoldsSpec.pre6 enc Tryz.prog Tryz.f4 Rows.proofHoldsRow.domain false) (Rows.proofHoldsSpec.post enc Tryz.prog Tryz.f4 false true false false) := by
  refine returnsInHanded_of_change (C := Tryz.checked) own_knob started (by kernel_rfl) Tryz.func4
    (ChangeSpec.witness6 (enc := enc) (C := Tryz.checked) false ⟨#[], #[.agg #[.int .i64 0, .slice none 0 0], .slice none 0 0, .int .u64 0], []⟩ 8 (by kernel_rfl) (by kernel_rfl) (by kernel_rfl) (by kernel_rfl)) ?_
  intro W base args ds gs before hval0 hW _ _
  have hval : ∀ (j : Nat) t v, Tryz.f4.params[j]? = some t → args[j]? = some v → Value.okWide Tryz.prog W .any base t v := hval0
  have hW' := hW
  obtain ⟨p, q, hA0, hV, rfl, _, _⟩ := hW
  have hA : DataW.TrodAll enc Tryz.prog W 0 (fun _ => true) true Tryz.f4.params.toList args.toList ds p := hA0
  rw [Tryz.params4] at hA hval
  obtain ⟨v0, v1, v2, d0, d1, d2, p0, p1, p2, rfl, rfl, rfl, h0, h1, h2⟩ := trodAll_three hA
  obtain ⟨rfl, rfl⟩ := trodVars_none hV
  obtain ⟨x0, A0, n0, c0, cs0, rfl, hR0, h320, _, hn0, hv00, hv10, hnil0, _, _⟩ := open_form (hval 0 27 v0 rfl rfl) h0
  obtain ⟨A1, n1, c1, log1, rfl, hR1, h321, _, hn1, _, _, _⟩ := open_steps (hval 1 39 v1 rfl rfl) h1
  obtain ⟨a2, rfl, rfl, rfl, w2⟩ := open_int Tryz.underlying40 (hval 2 40 v2 rfl rfl) h2
  clear hA0 hval0
  simp only [List.append_nil] at hW'
  have hlt0 : ∀ y ∈ p0, y.block < W.heap.size := fun y hy => by simpa using hW'.lt y (by simp [hy])
  have hlt1 : ∀ y ∈ p1, y.block < W.heap.size := fun y hy => by simpa using hW'.lt y (by simp [hy])
  refine (walk x0 A0 A1 n0 c0 n1 c1 cs0 log1 a2 W hR0 h320 hnil0 hn0 hR1 h321 hn1 hv00 hv10).mono fun e W' ⟨he, hB⟩ => ?_
  subst he
  exact ⟨_, rfl, _, _, _, [], _, [], hW', trodAll_mk1 (shut_bool Tryz.underlying4 true), trodAll_mk3 (Below.trod laid_out (by kernel_rfl) (of_decide_eq_true (by kernel_rfl)) h0 hB hlt0) (Below.trod laid_out (by kernel_rfl) (of_decide_eq_true (by kernel_rfl)) h1 hB hlt1) (shut_int Tryz.underlying40 w2), rfl, hB.frame _, fun h => by cases h⟩

theorem proved : Rows.ProofHoldsSaid :=
  OpenClaim.holds_of_wide 4 Tryz.f4 rfl rfl rfl rfl rfl rfl rfl ⟨rfl, rfl, rfl, rfl, rfl⟩ rfl rfl rfl rfl rfl (by kernel_rfl) Tryz.func4 (by kernel_rfl)
    (of_decide_eq_true (by kernel_rfl)) (by unfold Func.isWrapper; first | (rw [if_pos (by decide +kernel)]; kernel_rfl) | (rw [if_neg (by decide +kernel)]; exact ⟨rfl, rfl⟩))
    (fun os started H enc _ => lifted os started H enc)
end Go.Proofs.YtmegplcepcacgaaGreat.PHolds
namespace Go.Proofs.YtmegplcepcacgaaGreat
theorem proofHolds_holds : Rows.ProofHoldsSaid := PHolds.proved
#print axioms proofHolds_holds
end Go.Proofs.YtmegplcepcacgaaGreat
