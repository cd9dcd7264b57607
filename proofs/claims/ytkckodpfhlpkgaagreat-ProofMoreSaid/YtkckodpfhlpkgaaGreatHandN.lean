/- Is a clause one of so many variables; a hand is made: contracts. -/
import Derived.Test.YtkckodpfhlpkgaaGreatHandT
import Derived.Deep.RegionHeld3
namespace Go.Proofs.YtkckodpfhlpkgaaGreat
open Go.RowKit LitM TrailM EngM CnfP

theorem eg_pwithin1 : ∀ args w, (callFunc 27 args).run Tryz.prog w = .ok (.enter 27 args) w := enters_of Tryz.func27 (by kernel_rfl) rfl
set_option maxHeartbeats 800000 in
theorem pwithin1_says (G : Nat) (v : Int) (w : World) (hc : w.cell? ⟨G, 0, none⟩ = some (.int .i64 v)) (x : Int) (h0 : -2147483648 ≤ x) (h1 : x ≤ 2147483647) :
    Says 27 #[.pointer (some ⟨G, 0, none⟩)] (Value.int .i32) (fun l => !litB v l) w x := by
  intro q
  have hc' : (w.drewN q).cell? ⟨G, 0, none⟩ = some (.int .i64 v) := hc
  have HV := Lib.hid (var_q x (w.drewN q) h0 h1)
  have hl : litB v x = (decide (varZ x ≠ 0) && decide (varZ x ≤ v)) := by
    unfold litB
    have := varZ_zero x
    cases ho : LitM.one x with
    | true =>
      have : varZ x ≠ 0 := fun e => by rw [this.1 e] at ho; cases ho
      simp [this]
    | false =>
      have : varZ x = 0 := this.2 ho
      simp [this]
  have HL := Lib.hid hl
  clear hl hc
  generalize hW : w.drewN q = W at *
  have HW := Lib.hid hW; clear hW
  generalize varZ x = z at *
  show Calls Tryz.prog 27 #[.int .i32 x, .pointer (some ⟨G, 0, none⟩)] W _
  by_cases e0 : z = 0
  · have t0 : (z == 0) = true := by rw [beq_iff_eq]; exact e0
    go_enter Tryz.func27, Tryz.ntmps27
    go_wp2_with fail
    refine HV.out.mono ?_
    rintro e w' ⟨rfl, rfl⟩
    go_wp2_with fail
    go_ret
    exact ⟨ret_bool (by rw [HL.out]; simp [e0]), q, HW.out.symm⟩
  · have t0 : (z == 0) = false := by rw [beq_eq_false_iff_ne]; exact e0
    go_enter Tryz.func27, Tryz.ntmps27
    go_wp2_with fail
    refine HV.out.mono ?_
    rintro e w' ⟨rfl, rfl⟩
    go_wp2_with fail
    go_ret
    exact ⟨ret_bool (by rw [HL.out]; by_cases hq : z ≤ v <;> simp [e0, hq] <;> omega), q, HW.out.symm⟩
theorem any_litB {v : Int} {c : List Int} : (!c.any fun l => !litB v l) = clauseB v c := by
  unfold clauseB
  rw [Bool.eq_iff_iff, Bool.not_eq_true', List.any_eq_false, List.all_eq_true]
  constructor
  · intro h x hx; have := h x hx; simpa using this
  · intro h x hx; have := h x hx; simp [this]
set_option maxHeartbeats 1600000 in
theorem pwithin_any (A : Option Addr) (n c : Nat) (xs : List Int) (v : Int) (w : World) (h : Rd .i32 w w.heap.size A n xs) (hr : In32 xs) (hn : n ≤ 9223372036854775807) :
    Calls Tryz.prog 17 #[.slice A n c, .int .i64 v] w fun e w' => e = .returned (.bool (clauseB v xs)) ∧ Below w.heap.size w w' := by
  have hmf : ∀ (fn : Fn) (first cap : Array Value) (w : World), (Instr.makeFunc fn first cap).run Tryz.prog w = .ok (.func fn first cap) w := fun _ _ _ _ => rfl
  have hnot : ∀ (x : Bool) (w : World), (Op.unary .not (.bool x)).run Tryz.prog w = .ok (.bool (!x)) w := fun _ _ => rfl
  have hR := (h.alloc (Nat.le_refl _) (.cells #[.int .i64 v] 3)).more (B' := (w.alloc (.cells #[.int .i64 v] 3)).heap.size) (by simp)
  have hcon := containsL_any 27 #[.pointer (some ⟨w.heap.size, 0, none⟩)] (fun l => !litB v l) eg_pwithin1 A n c xs _ _ hR hn (fun j _ => pwithin1_says w.heap.size v _ (by simp) _ (hr j).1 (hr j).2)
  have EV := Lib.hid (any_litB (v := v) (c := xs))
  generalize (xs.any fun l => !litB v l) = r at *
  have HC := Lib.hid hcon
  clear hR hcon h hr
  go_enter Tryz.func17, Tryz.ntmps17
  go_wp2_with fail
  refine HC.out.mono ?_
  rintro e w' ⟨rfl, q, rfl⟩
  go_wp2_with fail
  go_ret
  exact ⟨ret_bool EV.out, below_drewN ((Below.refl _ _).alloc (Nat.le_refl _) _) q⟩
/-- A hand that is new. -/
def hd0 (bh bm gc steps nf : Nat) : HdC := ⟨bh, bm, 0, (nf : Int), some ⟨gc, 0, none⟩, steps, steps, -1, fun _ => (none, 0), fun _ => [], fun k => if k = bh then .hand else if k = bm then .map else if k = gc then .crow else .no⟩
section
variable {B n : Nat} {w0 w w' : World} {h : HdC} {c c' : TmC} {S S' : Eng} {q q' : Pm}
theorem new_hand {V : World} {bm gc steps nf : Nat} (hT : TmG B w0 V c S q) (hm : V.heap[bm]? = some (.map #[] 0)) (hc : RowV 37 1 V gc steps steps (fun _ => .slice none 0 0)) (hom : q.own bm = .no ∧ c.tl bm = .no) (hoc : q.own gc = .no ∧ c.tl gc = .no) (hBm : B ≤ bm) (hBc : B ≤ gc) (hne : bm ≠ gc) (htr : c.tr = false) :
    HdG B w0 (V.alloc (.cells ((hd0 V.heap.size bm gc steps nf).cells c.bt) 51)) (hd0 V.heap.size bm gc steps nf) c S q := by
  have hb : Below V.heap.size V (V.alloc (.cells ((hd0 V.heap.size bm gc steps nf).cells c.bt) 51)) := (Below.refl _ _).alloc (Nat.le_refl _) _
  have hml := lt_of_heap hm
  have hcl := hc.lt
  refine ⟨hT.below hb, blk_new _ _, (MapR.made_at hm).same (hb.block bm hml), .inr ⟨gc, rfl, hc.same (hb.block gc hcl)⟩, fun s => SlV.nil _ _ _ _, ?_, ?_, fun k hk => ?_, fun s k hk => absurd hk (onB_none k), fun k hk => ?_, htr⟩
  · show (if V.heap.size = V.heap.size then Hl.hand else _) = _
    rw [if_pos rfl]
  · show (if bm = V.heap.size then Hl.hand else if bm = bm then .map else if bm = gc then .crow else .no) = .map
    rw [if_neg (show ¬ bm = V.heap.size by omega), if_pos rfl]
  · have hk : k = gc := (onB_some _ _).1 hk
    subst hk
    show (if k = V.heap.size then Hl.hand else if k = bm then .map else _) = _
    rw [if_neg (show ¬ k = V.heap.size by omega), if_neg (show ¬ k = bm by omega), if_pos rfl]
  · have hk2 : (if k = V.heap.size then Hl.hand else if k = bm then .map else if k = gc then .crow else .no) ≠ .no := hk
    have hsz : (V.alloc (.cells ((hd0 V.heap.size bm gc steps nf).cells c.bt) 51)).heap.size = V.heap.size + 1 := by simp
    rw [hsz]
    by_cases e1 : k = V.heap.size
    · subst e1
      exact ⟨hT.eng.fresh (Nat.le_refl _), Classical.byContradiction fun e => by have := (hT.lo _ e).2.2; omega, hT.eng.hs, by omega⟩
    · rw [if_neg e1] at hk2
      by_cases e2 : k = bm
      · subst e2; exact ⟨hom.1, hom.2, hBm, by omega⟩
      · rw [if_neg e2] at hk2
        by_cases e3 : k = gc
        · subst e3; exact ⟨hoc.1, hoc.2, hBc, by omega⟩
        · rw [if_neg e3] at hk2; exact absurd rfl hk2
theorem ok_new {h : HdC} {np : Nat} {room steps : Int} {bt : Nat} (hI : Inv (newE (n + 1))) (hN : NewT c (n : Int) room np steps bt) (hn : n ≤ 10000) (h1 : h.ns = fun _ => []) (h2 : h.n = 0) : HOk h c (newE (n + 1)) n 0 0 (fun _ => 0) := by
  have hno : ∀ c', ¬ hasE (newE (n + 1)) c' := fun c' ⟨i, hi, _⟩ => by simp [newE] at hi
  refine ⟨⟨⟨hI, rfl, fun c' hc => absurd hc (hno c'), (fun x hx => by simp [newE] at hx), (fun x hx => by simp [newE] at hx), hn⟩, hN.vars, (fun e => by rw [hN.settled] at e; cases e), (fun e => by rw [hN.stuck] at e; cases e)⟩, (fun ys _ => by rw [h1]; rfl), fun ys e => absurd rfl e, fun ys e => absurd rfl e, (fun id hi _ => by simp [newE] at hi), (fun ys z _ hz => by rw [h1] at hz; cases hz), by simp [newE], by rw [h2]; exact Nat.le_refl _, fun s => by rw [h1]; exact Nat.le_refl _⟩
theorem info_rint : (Tryz.prog.info? 37).map (fun i => (i.zero, i.size, i.bytes)) = some (some (.slice none 0 0), 1, 24) := by kernel_rfl
/-- A clean clause is short. -/
theorem OkC.few {ys : List Int} (h : OkC n ys) (hn : n ≤ 4000) : ys.length ≤ 10000 := by
  have hnd : ys.Nodup := h.so.imp (fun {a b} hab e => by rw [e] at hab; exact Int.lt_irrefl _ hab)
  have := nodup_len ys ((List.range (2 * n + 1)).map fun i : Nat => ((i : Int) - (n : Int))) hnd (fun x hx => by
    obtain ⟨h1, h2⟩ := h.one x hx
    have hb : -(n : Int) ≤ x ∧ x ≤ n := by
      rcases (one_iff x).1 h1 with e | e
      · rw [varZ_pos e.1 e.2] at h2; omega
      · rw [varZ_neg e.1 e.2] at h2; omega
    exact List.mem_map.2 ⟨(x + n).toNat, List.mem_range.2 (by omega), by omega⟩)
  rw [List.length_map, List.length_range] at this
  omega
theorem hadd_ok {nx k : Nat} {m : List Int → Nat} (H : HdG B w0 w h c S q) (HO : HOk h c S n nx k m) (hroom : c.room = 1048576) (hnp : c.np ≤ 90000) (hk : k ≤ 15000) (hn : n ≤ 4000) (num : Nat) (hnx : nx ≤ num) (hnum : num < c.np) (A : Option Addr) (mm cp : Nat) (xs : List Int) (hr : Rd .i32 w w.heap.size A mm xs) (h32 : In32 xs) (hm : mm * 4 ≤ 140737488351232) (hf : ∀ x ∈ xs, LitM.one x = true ∧ varZ x ≤ (n : Int)) :
    Calls Tryz.prog 30 #[.pointer (some ⟨h.bh, 0, none⟩), .int .i64 (num : Nat), .slice A mm cp] w fun e w' => e = .returned (.tuple #[]) ∧ ∃ h' c' S' q', HdG B w0 w' h' c' S' q' ∧ HOk h' c' S' n (num + 1) (k + 1) (incM m (clZ xs)) ∧ (h'.bh = h.bh ∧ h'.given = h.given ∧ h'.nc = h.nc ∧ c'.np = c.np ∧ c'.room = c.room) := by
  refine (hadd_any H (Nat.le_trans HO.sz.1 (by omega)) hroom num hnum hnp (by have := HO.sz.2.1; omega) (fun s => by have := HO.sz.2.2 s; omega) A mm cp xs hr h32 hm (few_all hf) (fitsB_iff.2 fun x hx => ⟨(hf x hx).1, by have := (hf x hx).2; have := HO.t.E.nn; omega⟩) (fun ys hc => (OkC.of hc hf).few hn)).mono fun e w' ⟨he, ht⟩ => ⟨he, ?_⟩
  obtain ⟨ys, h', c', S', q', hc, a1, a2, a3, a4, _, _⟩ := ht
  have ho := OkC.of hc hf
  rw [clZ_eq hc]
  rcases a4 with ⟨b1, rfl, rfl⟩ | ⟨b1, rfl, An, cn, tl, rfl⟩
  · exact ⟨h', c', S', q', a1, HO.again ho b1 hnx a3 a2.2.2.1, a2.1, a2.2.2.2.1, a2.2.2.2.2.1, rfl, rfl⟩
  · exact ⟨h', _, _, q', a1, HO.first ho b1 hnx a3 a2.2.2.1 a1.tm.eng.inv, a2.1, a2.2.2.2.1, a2.2.2.2.2.1, rfl, rfl⟩
/-- What newHand leaves. -/
def NhdTo (B : Nat) (w0 : World) (n nf steps : Nat) (cs : List (List Int)) (e : Ending) (w' : World) : Prop :=
  ∃ h c S q, e = .returned (.pointer (some ⟨h.bh, 0, none⟩)) ∧ HdG B w0 w' h c S q ∧ HOk h c S n nf nf (handM cs fun _ => 0) ∧ h.given = (nf : Int) ∧ h.nc = steps ∧ c.np = nf + steps ∧ c.room = 1048576
set_option maxHeartbeats 25600000 in
set_option maxRecDepth 100000 in
theorem hnew_any (hs0 : B ≤ w.heap.size) (hB0 : Below B w0 w) (hn : n ≤ 4000) {nf steps cf : Nat} (hnf : nf ≤ 1000) (hst : steps ≤ 1000) (A : Option Addr) (cs : List (List Int)) (hr : RdF w0 B A nf cs) (h32 : ∀ c ∈ cs, In32 c) (hlen : ∀ c ∈ cs, c.length * 4 ≤ 140737488351232) (hf : ∀ c ∈ cs, ∀ x ∈ c, LitM.one x = true ∧ varZ x ≤ (n : Int)) :
    Calls Tryz.prog 18 #[.agg #[.int .i64 (n : Nat), .slice A nf cf], .int .i64 (steps : Nat), .int .i64 1048576] w (NhdTo B w0 n nf steps cs) := by
  obtain ⟨w1, hw1⟩ : ∃ w1, w1 = w.alloc (.cells #[.int .i64 (n : Nat), .slice A nf cf] 24) := ⟨_, rfl⟩
  have hbw1 : Below w.heap.size w w1 := by rw [hw1]; exact (Below.refl _ _).alloc (Nat.le_refl _) _
  have hmm := @run_makeMap Tryz.prog
  obtain ⟨C, hC1, hC2, hmk⟩ := make_sl (P := Tryz.prog) 49 37 Tryz.underlying49 info_rint rfl (by decide) (by decide) steps (by omega)
  have hC2 : ∀ j, j < steps * 1 → C[j]? = some (.slice none 0 0) := fun j hj => by rw [hC2 j hj]; simp [Nat.mod_one]; rfl
  have x0 : w1.cell? ⟨w.heap.size, 0, none⟩ = some (.int .i64 (n : Nat)) := by rw [hw1, Lib.cell_of_heap (blk_new w _)]; rfl
  have x1 : w1.cell? ⟨w.heap.size, 1, none⟩ = some (.slice A nf cf) := by rw [hw1, Lib.cell_of_heap (blk_new w _)]; rfl
  have hl1 : w.heap.size < w1.heap.size := by rw [hw1]; simp
  obtain ⟨v0, hv0⟩ : ∃ v0, v0 = w1.drew := ⟨_, rfl⟩
  have hb10 : Below w1.heap.size w1 v0 := by rw [hv0]; exact (Below.refl _ _).drew
  have HS : Hid (∀ W, Below v0.heap.size v0 W → W.cell? ⟨w.heap.size, 0, none⟩ = some (.int .i64 (n : Nat)) ∧ W.cell? ⟨w.heap.size, 1, none⟩ = some (.slice A nf cf)) := fun W hW => by
    have hb := hb10.trans (hW.mono hb10.size)
    exact ⟨(hb.cell (p := ⟨w.heap.size, 0, none⟩) hl1).trans x0, (hb.cell (p := ⟨w.heap.size, 1, none⟩) hl1).trans x1⟩
  have hBv : B ≤ v0.heap.size := Nat.le_trans (Nat.le_trans hs0 hbw1.size) hb10.size
  have hB0v : Below B w0 v0 := (hB0.trans (hbw1.mono hs0)).trans (hb10.mono (Nat.le_trans hs0 hbw1.size))
  have HTm : Hid (∀ V, Below v0.heap.size v0 V → Calls Tryz.prog 29 #[.int .i64 (n : Nat), .int .i64 (nf : Nat), .int .i64 (steps : Nat), .int .i64 1048576] V fun e w' => ∃ c q, e = .returned (.pointer (some ⟨c.bt, 0, none⟩)) ∧ TmG B w0 w' c (newE (n + 1)) q ∧ NewT c (n : Int) 1048576 (nf + steps) (nf : Nat) c.bt ∧ Below V.heap.size V w' ∧ (∀ k, q.own k ≠ .no → V.heap.size ≤ k) ∧ ∀ k, c.tl k ≠ .no → V.heap.size ≤ k) := fun V hV => by
    refine (tnewTeam_any (B := B) (w0 := w0) (vars := (n : Int)) (room := 1048576) (given := nf) (steps := steps) (by omega) (by omega) (by omega) (by omega) (Nat.le_trans hBv hV.size) (hB0v.trans (hV.mono hBv))).mono fun e w' ht => ?_
    obtain ⟨c, q, h1, h2, h3⟩ := ht
    have : ((n : Int) + 1).toNat = n + 1 := by omega
    rw [this] at h2
    exact ⟨c, q, h1, h2, h3⟩
  have hb0 : Below v0.heap.size v0 v0 := Below.refl _ _
  have HR := Lib.hid hr
  have H32 := Lib.hid h32
  have HLN := Lib.hid hlen
  have HF := Lib.hid hf
  have HW1 := Lib.hid hw1
  have HV0 := Lib.hid hv0
  have HLL := Lib.hid hr.len
  clear hr h32 hlen hf hw1 hv0 hbw1 hb10 x0 x1 hl1 hs0 hB0 hB0v
  go_enter Tryz.func18, Tryz.ntmps18
  go_upto_region 1 with (fail)
  rw [← HW1.out]
  refine wp_region_held_drew (S := (fun W => W.cell? ⟨w.heap.size, 0, none⟩ = some (.int .i64 (n : Nat)) ∧ W.cell? ⟨w.heap.size, 1, none⟩ = some (.slice A nf cf))) (by kernel_rfl) (by rw [← HV0.out]; exact HS.out v0 hb0) (fun hHeld => ?_)
  rw [← HV0.out] at hHeld ⊢
  refine wpAnyH_take (i := 0) (v := ?_) rfl (by kernel_rfl) (by kernel_rfl) (by kernel_rfl) (fun _ _ _ h => h) (Or.inl ⟨by kernel_rfl, ?_⟩) (by assumption) ?_
  rotate_left 1
  · intro w hSw
    (try dsimp only at hSw)
    first | (go_simp; done) | (go_simp; with_reducible rfl)
  go_simp
  refine wpAnyH_take (i := 1) (v := ?_) rfl (by kernel_rfl) (by kernel_rfl) (by kernel_rfl) (fun _ _ _ h => h) (Or.inl ⟨by kernel_rfl, ?_⟩) (by assumption) ?_
  rotate_left 1
  · intro w hSw
    (try dsimp only at hSw)
    first | (go_simp; done) | (go_simp; with_reducible rfl)
  go_simp
  refine wpAnyH_take (i := 2) (v := ?_) rfl (by kernel_rfl) (by kernel_rfl) (by kernel_rfl) (fun _ _ _ h => h) (Or.inl ⟨by kernel_rfl, ?_⟩) (by assumption) ?_
  rotate_left 1
  · intro w hSw
    (try dsimp only at hSw)
    first | (go_simp; done) | (go_simp; with_reducible rfl)
  go_simp
  refine wpAnyH_take (i := 4) (v := ?_) rfl (by kernel_rfl) (by kernel_rfl) (by kernel_rfl) (fun _ _ _ h => h) (Or.inl ⟨by kernel_rfl, ?_⟩) (by assumption) ?_
  rotate_left 1
  · intro w hSw
    (try dsimp only at hSw)
    first | (go_simp; done) | (go_simp; with_reducible rfl)
  go_simp
  refine wpAnyH_take (i := 5) (v := ?_) rfl (by kernel_rfl) (by kernel_rfl) (by kernel_rfl) (fun _ _ _ h => h) (Or.inl ⟨by kernel_rfl, ?_⟩) (by assumption) ?_
  rotate_left 1
  · intro w hSw
    (try dsimp only at hSw)
    first | (go_simp; done) | (go_simp; with_reducible rfl)
  go_simp
  refine wpAnyH_take (i := 6) (v := ?_) rfl (by kernel_rfl) (by kernel_rfl) (by kernel_rfl) (fun _ _ _ h => h) (Or.inl ⟨by kernel_rfl, ?_⟩) (by assumption) ?_
  rotate_left 1
  · intro w hSw
    (try dsimp only at hSw)
    first | (go_simp; done) | (go_simp; with_reducible rfl)
  go_simp
  refine wpAnyH_take (i := 7) (v := ?_) rfl (by kernel_rfl) (by kernel_rfl) (by kernel_rfl) (fun _ _ _ h => h) (Or.inl ⟨by kernel_rfl, ?_⟩) (by assumption) ?_
  rotate_left 1
  · intro w hSw
    (try dsimp only at hSw)
    first | (go_simp; done) | (go_simp; with_reducible rfl)
  go_simp
  refine wpAnyH_take (i := 8) (v := ?_) rfl (by kernel_rfl) (by kernel_rfl) (by kernel_rfl) (fun _ _ _ h => h) (Or.inl ⟨by kernel_rfl, ?_⟩) (by assumption) ?_
  rotate_left 1
  · intro w hSw
    (try dsimp only at hSw)
    first | (go_simp; done) | (go_simp; with_reducible rfl)
  go_simp
  refine wpAnyH_take (i := 9) (v := ?_) rfl (by kernel_rfl) (by kernel_rfl) (by kernel_rfl) (fun _ _ _ h => h) (Or.inl ⟨by kernel_rfl, ?_⟩) (by assumption) ?_
  rotate_left 1
  · intro w hSw
    (try dsimp only at hSw)
    first | (go_simp; done) | (go_simp; with_reducible rfl)
  go_simp
  refine wpAnyH_take (i := 10) (v := ?_) rfl (by kernel_rfl) (by kernel_rfl) (by kernel_rfl) (fun _ _ _ h => h) (Or.inl ⟨by kernel_rfl, ?_⟩) (by assumption) ?_
  rotate_left 1
  · intro w hSw
    (try dsimp only at hSw)
    first | (go_simp; done) | (go_simp; with_reducible rfl)
  go_simp
  refine wpAnyH_take (i := 12) (v := ?_) rfl (by kernel_rfl) (by kernel_rfl) (by kernel_rfl) (fun _ _ _ h => h) (Or.inl ⟨by kernel_rfl, ?_⟩) (by assumption) ?_
  rotate_left 1
  · intro w hSw
    (try dsimp only at hSw)
    first | (go_simp; done) | (go_simp; with_reducible rfl)
  go_simp
  refine wpAnyH_take (i := 13) (v := ?_) rfl (by kernel_rfl) (by kernel_rfl) (by kernel_rfl) (fun _ _ _ h => h) (Or.inl ⟨by kernel_rfl, ?_⟩) (by assumption) ?_
  rotate_left 1
  · intro w hSw
    (try dsimp only at hSw)
    first | (go_simp; done) | (go_simp; with_reducible rfl)
  go_simp
  refine wpAnyH_take (i := 14) (v := ?_) rfl (by kernel_rfl) (by kernel_rfl) (by kernel_rfl) (fun _ _ _ h => h) (Or.inl ⟨by kernel_rfl, ?_⟩) (by assumption) ?_
  rotate_left 1
  · intro w hSw
    (try dsimp only at hSw)
    first | (go_simp; done) | (go_simp; with_reducible rfl)
  go_simp
  refine wpAnyH_take (i := 15) (v := ?_) rfl (by kernel_rfl) (by kernel_rfl) (by kernel_rfl) (fun _ _ _ h => h) (Or.inl ⟨by kernel_rfl, ?_⟩) (by assumption) ?_
  rotate_left 1
  · intro w hSw
    (try dsimp only at hSw)
    first | (go_simp; done) | (go_simp; with_reducible rfl)
  go_simp
  refine wpAnyH_ready (rs := [3, 11, 16]) (by kernel_rfl) (by simp) ?_
  refine AllReadyH.cons rfl (fun K hK => ?_) ?_
  ·
    go_simp
    obtain ⟨v1, hv1⟩ : ∃ v1, v1 = v0.alloc (.map #[] 0) := ⟨_, rfl⟩
    have hb : Below v0.heap.size v0 v1 := by rw [hv1]; exact (Below.refl _ _).alloc (Nat.le_refl _) _
    have hb1 : Below v0.heap.size v0 v1 := hb0.trans (hb.mono hb0.size)
    refine hK.out _ (v0.alloc (.map #[] 0)) (by rw [← hv1]; exact HS.out _ hb1) ?_
    clear hHeld
    intro _
    have hHeld := HS.out v1 hb1
    change wpAnyH _ _ _ _ _ _ _ _ (v0.alloc (.map #[] 0))
    rw [← hv1]
    have HV1 := Lib.hid hv1
    clear hK K hv1
    have hs1 : Below v0.heap.size v0 v1 := hb
    clear hb
    refine wpAnyH_ready (rs := [11, 16]) (by kernel_rfl) (by simp) ?_
    refine AllReadyH.cons rfl (fun K hK => ?_) ?_
    ·
      go_simp
      refine (HTm.out v1 hb1).mono ?_
      rintro e v2 ⟨c, q, rfl, hT, hN, hb, hq, htl⟩
      have hb2 : Below v0.heap.size v0 v2 := hb1.trans (hb.mono hb1.size)
      refine hK.out _ _ (HS.out _ hb2) (fun hHeld => ?_)
      clear hK K
      have hs2 : Below v1.heap.size v1 v2 := hb
      clear hb
      refine wpAnyH_ready (rs := [16]) (by kernel_rfl) (by simp) ?_
      refine AllReadyH.cons rfl (fun K hK => ?_) ?_
      ·
        go_simp
        obtain ⟨v3, hv3⟩ : ∃ v3, v3 = v2.alloc (.cells C 37) := ⟨_, rfl⟩
        have hb : Below v2.heap.size v2 v3 := by rw [hv3]; exact (Below.refl _ _).alloc (Nat.le_refl _) _
        have hb3 : Below v0.heap.size v0 v3 := hb2.trans (hb.mono hb2.size)
        refine hK.out _ (v2.alloc (.cells C 37)) (by rw [← hv3]; exact HS.out _ hb3) ?_
        clear hHeld
        intro _
        have hHeld := HS.out v3 hb3
        change wpAnyH _ _ _ _ _ _ _ _ (v2.alloc (.cells C 37))
        rw [← hv3]
        have HV3 := Lib.hid hv3
        clear hK K hv3
        have hs3 : Below v2.heap.size v2 v3 := hb
        clear hb
        refine wpAnyH_take (i := 17) (v := ?_) rfl (by kernel_rfl) (by kernel_rfl) (by kernel_rfl) (fun _ _ _ h => h) (Or.inl ⟨by kernel_rfl, ?_⟩) (by assumption) ?_
        rotate_left 1
        · intro w hSw
          (try dsimp only at hSw)
          first | (go_simp; done) | (go_simp; with_reducible rfl)
        go_simp
        refine wpAnyH_ready (rs := [18]) (by kernel_rfl) (by simp) ?_
        refine AllReadyH.cons rfl (fun K hK => ?_) ?_
        ·
          go_simp
          have hTf := hT.below hs3
          have hmf : v3.heap[v0.heap.size]? = some (.map #[] 0) := ((hs2.trans (hs3.mono hs2.size)).block _ (by rw [HV1.out]; simp)).trans (by rw [HV1.out]; exact blk_new _ _)
          have hcf : RowV 37 1 v3 v2.heap.size steps steps (fun _ => .slice none 0 0) := RowV.same (w := v3) (by rw [HV3.out]; exact RowV.made (by omega) hC1 hC2) ((Below.refl v3.heap.size v3).block _ (by rw [HV3.out]; simp))
          have hss : v0.heap.size ≤ v1.heap.size ∧ v1.heap.size ≤ v2.heap.size ∧ v2.heap.size ≤ v3.heap.size := ⟨hs1.size, hs2.size, hs3.size⟩
          have hsm : v0.heap.size < v1.heap.size := by rw [HV1.out]; simp
          have hsc : v2.heap.size < v3.heap.size := by rw [HV3.out]; simp
          have hom : q.own v0.heap.size = .no ∧ c.tl v0.heap.size = .no := ⟨Classical.byContradiction fun e => by have := hq _ e; omega, Classical.byContradiction fun e => by have := htl _ e; omega⟩
          have hoc : q.own v2.heap.size = .no ∧ c.tl v2.heap.size = .no := ⟨hT.eng.fresh (by omega), Classical.byContradiction fun e => by have := (hT.lo _ e).2.2; omega⟩
          obtain ⟨hc, hcd⟩ : ∃ hc : HdC, hc = hd0 v3.heap.size v0.heap.size v2.heap.size steps nf := ⟨_, rfl⟩
          have hcc : hc.cells c.bt = #[.map (some v0.heap.size), .pointer (some ⟨c.bt, 0, none⟩), .int .i64 (nf : Nat), .slice (some ⟨v2.heap.size, 0, none⟩) steps steps, .int .i64 (-1)] := by rw [hcd]; rfl
          have HHd := Lib.hid (new_hand hTf hmf hcf hom hoc (by omega) (by omega) (by omega) hN.tr (nf := nf))
          rw [← hcd] at HHd
          have HNw := Lib.hid hN
          clear hTf hmf hcf hom hoc hq htl hT hN hsm hsc
          rw [← hcc]
          obtain ⟨v4, hv4⟩ : ∃ v4, v4 = v3.alloc (.cells (hc.cells c.bt) 51) := ⟨_, rfl⟩
          have hb : Below v3.heap.size v3 v4 := by rw [hv4]; exact (Below.refl _ _).alloc (Nat.le_refl _) _
          have hb4 : Below v0.heap.size v0 v4 := hb3.trans (hb.mono hb3.size)
          refine hK.out _ (v3.alloc (.cells (hc.cells c.bt) 51)) (by rw [← hv4]; exact HS.out _ hb4) ?_
          clear hHeld
          intro _
          have hHeld := HS.out v4 hb4
          change wpAnyH _ _ _ _ _ _ _ _ (v3.alloc (.cells (hc.cells c.bt) 51))
          rw [← hv4]
          have HV4 := Lib.hid hv4
          clear hK K hv4
          have hs4 : Below v3.heap.size v3 v4 := hb
          clear hb
          refine wpAnyH_take (i := 19) (v := ?_) rfl (by kernel_rfl) (by kernel_rfl) (by kernel_rfl) (fun _ _ _ h => h) (Or.inl ⟨by kernel_rfl, ?_⟩) (by assumption) ?_
          rotate_left 1
          · intro w hSw
            (try dsimp only at hSw)
            first | (go_simp; done) | (go_simp; with_reducible rfl)
          go_simp
          refine wpAnyH_done (by kernel_rfl) ?_ _
          have HG0 : Hid (HdG B w0 v4 hc c (newE (n + 1)) q) := by
            have := HHd.out
            unfold Hid
            rw [HV4.out]; exact this
          have HO0 : Hid (HOk hc c (newE (n + 1)) n 0 0 (fun _ => 0)) := ok_new HG0.out.tm.eng.inv HNw.out (by omega) (by rw [hcd]; rfl) (by rw [hcd]; rfl)
          obtain ⟨bh, hbh⟩ : ∃ bh, bh = v3.heap.size := ⟨_, rfl⟩
          have HE0 : Hid (∃ h' c' S' q' m', HdG B w0 v4 h' c' S' q' ∧ HOk h' c' S' n 0 0 m' ∧ h'.bh = bh ∧ h'.given = (nf : Int) ∧ h'.nc = steps ∧ c'.np = nf + steps ∧ c'.room = 1048576 ∧ handM cs (fun _ => 0) = handM (cs.drop 0) m') :=
            ⟨hc, c, _, q, _, HG0.out, HO0.out, by rw [hbh, hcd]; rfl, by rw [hcd]; rfl, by rw [hcd]; rfl, HNw.out.np, HNw.out.room, rfl⟩
          rw [← hbh]
          obtain ⟨y0, y1⟩ := hHeld
          try clear HV1
          try clear HV2
          try clear HV3
          clear HHd HNw HG0 HO0 hcd hcc HTm HS hbh HV4 hs1 hs2 hs3 hs4 hb0 hb1 hb2 hb3 hb4 hss hmm hmk hC1 hC2
          go_wp2_with fail
          go_loopw [32] (fun v wr => ∃ j : Nat, v = .int .i64 (j : Int) ∧ j ≤ nf ∧ Hid (∃ h' c' S' q' m', HdG B w0 wr h' c' S' q' ∧ HOk h' c' S' n j j m' ∧ h'.bh = bh ∧ h'.given = (nf : Int) ∧ h'.nc = steps ∧ c'.np = nf + steps ∧ c'.room = 1048576 ∧ handM cs (fun _ => 0) = handM (cs.drop j) m')) (fun v _ => nf - (intOf v).toNat)
          case atStart => exact ⟨0, rfl, by omega, HE0⟩
          case round =>
            clear HE0
            obtain ⟨j, rfl, hj, hh⟩ := hrel
            obtain ⟨h', c', S', q', m', H, HO, e1, e2, e3, e4, e5, e6⟩ := hh.out
            clear hh
            by_cases hlt : j < nf
            · have tk : decide ((j : Int) < (nf : Int)) = true := decide_eq_true (by omega)
              have tk2 : decide (j < nf) = true := decide_eq_true hlt
              have hjl : j < cs.length := by rw [HLL.out]; exact hlt
              obtain ⟨b, o, Aj, nj, cj, hA, hb, hcl, hrd⟩ := HR.out.get hlt
              subst hA
              have hmem : cs.getD j [] ∈ cs := by rw [getF_lt hjl]; exact List.getElem_mem hjl
              have hdr : cs.drop j = cs.getD j [] :: cs.drop (j + 1) := by rw [List.drop_eq_getElem_cons hjl, getF_lt hjl]
              rw [hdr] at e6
              have d0 : wr.cell? ⟨b, o + j, none⟩ = some (.slice Aj nj cj) := (H.tm.eng.out.cell (p := ⟨b, o + j, none⟩) hb).trans hcl
              have hnj := hrd.len
              have HAd := Lib.hid (hadd_ok H HO e5 (by omega) (by omega) (by omega) j (Nat.le_refl _) (by omega) Aj nj cj _ ((hrd.below H.tm.eng.out).more H.tm.eng.hs) (H32.out _ hmem) (by rw [← hnj]; exact HLN.out _ hmem) (HF.out _ hmem))
              rw [e1] at HAd
              have E := Lib.hid (show _ ∧ _ ∧ _ ∧ _ ∧ _ ∧ _ from ⟨e1, e2, e3, e4, e5, e6⟩)
              clear H HO e1 e2 e3 e4 e5 e6 hrd hcl hmem hdr hnj
              go_wp2_with fail
              refine HAd.out.mono ?_
              rintro e w5 ⟨rfl, h2, c2, S2, q2, a1, a2, a3⟩
              have HN : Hid (∃ h' c' S' q' m', HdG B w0 w5 h' c' S' q' ∧ HOk h' c' S' n (j + 1) (j + 1) m' ∧ h'.bh = bh ∧ h'.given = (nf : Int) ∧ h'.nc = steps ∧ c'.np = nf + steps ∧ c'.room = 1048576 ∧ handM cs (fun _ => 0) = handM (cs.drop (j + 1)) m') := by
                obtain ⟨f1, f2, f3, f4, f5, f6⟩ := E.out
                exact ⟨h2, c2, S2, q2, _, a1, a2, a3.1, a3.2.1.trans f2, a3.2.2.1.trans f3, a3.2.2.2.1.trans f4, a3.2.2.2.2.trans f5, f6⟩
              clear a1 a2 a3 HAd E
              go_wp2_with fail
              go_roundw
              case rel => exact ⟨j + 1, by go_num, by omega, HN⟩
              case measure => simp [intOf]; omega
            · have tk : decide ((j : Int) < (nf : Int)) = false := decide_eq_false (by omega)
              obtain rfl : j = nf := by omega
              have HFin : Hid (NhdTo B w0 n j steps cs (.returned (.pointer (some ⟨bh, 0, none⟩))) wr) := by
                rw [List.drop_eq_nil_of_le (by rw [HLL.out]; exact Nat.le_refl _)] at e6
                refine ⟨h', c', S', q', by rw [e1], H, ?_, e2, e3, e4, e5⟩
                rw [e6]; exact HO
              clear H HO e1 e2 e3 e4 e5 e6
              go_wp2_with fail
              go_ret
              exact HFin.out
        exact AllReadyH.nil
      exact AllReadyH.nil
    refine AllReadyH.cons rfl (fun K hK => ?_) ?_
    ·
      go_simp
      obtain ⟨v2, hv2⟩ : ∃ v2, v2 = v1.alloc (.cells C 37) := ⟨_, rfl⟩
      have hb : Below v1.heap.size v1 v2 := by rw [hv2]; exact (Below.refl _ _).alloc (Nat.le_refl _) _
      have hb2 : Below v0.heap.size v0 v2 := hb1.trans (hb.mono hb1.size)
      refine hK.out _ (v1.alloc (.cells C 37)) (by rw [← hv2]; exact HS.out _ hb2) ?_
      clear hHeld
      intro _
      have hHeld := HS.out v2 hb2
      change wpAnyH _ _ _ _ _ _ _ _ (v1.alloc (.cells C 37))
      rw [← hv2]
      have HV2 := Lib.hid hv2
      clear hK K hv2
      have hs2 : Below v1.heap.size v1 v2 := hb
      clear hb
      refine wpAnyH_ready (rs := [11]) (by kernel_rfl) (by simp) ?_
      refine AllReadyH.cons rfl (fun K hK => ?_) ?_
      ·
        go_simp
        refine (HTm.out v2 hb2).mono ?_
        rintro e v3 ⟨c, q, rfl, hT, hN, hb, hq, htl⟩
        have hb3 : Below v0.heap.size v0 v3 := hb2.trans (hb.mono hb2.size)
        refine hK.out _ _ (HS.out _ hb3) (fun hHeld => ?_)
        clear hK K
        have hs3 : Below v2.heap.size v2 v3 := hb
        clear hb
        refine wpAnyH_take (i := 17) (v := ?_) rfl (by kernel_rfl) (by kernel_rfl) (by kernel_rfl) (fun _ _ _ h => h) (Or.inl ⟨by kernel_rfl, ?_⟩) (by assumption) ?_
        rotate_left 1
        · intro w hSw
          (try dsimp only at hSw)
          first | (go_simp; done) | (go_simp; with_reducible rfl)
        go_simp
        refine wpAnyH_ready (rs := [18]) (by kernel_rfl) (by simp) ?_
        refine AllReadyH.cons rfl (fun K hK => ?_) ?_
        ·
          go_simp
          have hTf := hT.below (Below.refl v3.heap.size v3)
          have hmf : v3.heap[v0.heap.size]? = some (.map #[] 0) := ((hs2.trans (hs3.mono hs2.size)).block _ (by rw [HV1.out]; simp)).trans (by rw [HV1.out]; exact blk_new _ _)
          have hcf : RowV 37 1 v3 v1.heap.size steps steps (fun _ => .slice none 0 0) := RowV.same (w := v2) (by rw [HV2.out]; exact RowV.made (by omega) hC1 hC2) (hs3.block _ (by rw [HV2.out]; simp))
          have hss : v0.heap.size ≤ v1.heap.size ∧ v1.heap.size ≤ v2.heap.size ∧ v2.heap.size ≤ v3.heap.size := ⟨hs1.size, hs2.size, hs3.size⟩
          have hsm : v0.heap.size < v1.heap.size := by rw [HV1.out]; simp
          have hsc : v1.heap.size < v2.heap.size := by rw [HV2.out]; simp
          have hom : q.own v0.heap.size = .no ∧ c.tl v0.heap.size = .no := ⟨Classical.byContradiction fun e => by have := hq _ e; omega, Classical.byContradiction fun e => by have := htl _ e; omega⟩
          have hoc : q.own v1.heap.size = .no ∧ c.tl v1.heap.size = .no := ⟨Classical.byContradiction fun e => by have := hq _ e; omega, Classical.byContradiction fun e => by have := htl _ e; omega⟩
          obtain ⟨hc, hcd⟩ : ∃ hc : HdC, hc = hd0 v3.heap.size v0.heap.size v1.heap.size steps nf := ⟨_, rfl⟩
          have hcc : hc.cells c.bt = #[.map (some v0.heap.size), .pointer (some ⟨c.bt, 0, none⟩), .int .i64 (nf : Nat), .slice (some ⟨v1.heap.size, 0, none⟩) steps steps, .int .i64 (-1)] := by rw [hcd]; rfl
          have HHd := Lib.hid (new_hand hTf hmf hcf hom hoc (by omega) (by omega) (by omega) hN.tr (nf := nf))
          rw [← hcd] at HHd
          have HNw := Lib.hid hN
          clear hTf hmf hcf hom hoc hq htl hT hN hsm hsc
          rw [← hcc]
          obtain ⟨v4, hv4⟩ : ∃ v4, v4 = v3.alloc (.cells (hc.cells c.bt) 51) := ⟨_, rfl⟩
          have hb : Below v3.heap.size v3 v4 := by rw [hv4]; exact (Below.refl _ _).alloc (Nat.le_refl _) _
          have hb4 : Below v0.heap.size v0 v4 := hb3.trans (hb.mono hb3.size)
          refine hK.out _ (v3.alloc (.cells (hc.cells c.bt) 51)) (by rw [← hv4]; exact HS.out _ hb4) ?_
          clear hHeld
          intro _
          have hHeld := HS.out v4 hb4
          change wpAnyH _ _ _ _ _ _ _ _ (v3.alloc (.cells (hc.cells c.bt) 51))
          rw [← hv4]
          have HV4 := Lib.hid hv4
          clear hK K hv4
          have hs4 : Below v3.heap.size v3 v4 := hb
          clear hb
          refine wpAnyH_take (i := 19) (v := ?_) rfl (by kernel_rfl) (by kernel_rfl) (by kernel_rfl) (fun _ _ _ h => h) (Or.inl ⟨by kernel_rfl, ?_⟩) (by assumption) ?_
          rotate_left 1
          · intro w hSw
            (try dsimp only at hSw)
            first | (go_simp; done) | (go_simp; with_reducible rfl)
          go_simp
          refine wpAnyH_done (by kernel_rfl) ?_ _
          have HG0 : Hid (HdG B w0 v4 hc c (newE (n + 1)) q) := by
            have := HHd.out
            unfold Hid
            rw [HV4.out]; exact this
          have HO0 : Hid (HOk hc c (newE (n + 1)) n 0 0 (fun _ => 0)) := ok_new HG0.out.tm.eng.inv HNw.out (by omega) (by rw [hcd]; rfl) (by rw [hcd]; rfl)
          obtain ⟨bh, hbh⟩ : ∃ bh, bh = v3.heap.size := ⟨_, rfl⟩
          have HE0 : Hid (∃ h' c' S' q' m', HdG B w0 v4 h' c' S' q' ∧ HOk h' c' S' n 0 0 m' ∧ h'.bh = bh ∧ h'.given = (nf : Int) ∧ h'.nc = steps ∧ c'.np = nf + steps ∧ c'.room = 1048576 ∧ handM cs (fun _ => 0) = handM (cs.drop 0) m') :=
            ⟨hc, c, _, q, _, HG0.out, HO0.out, by rw [hbh, hcd]; rfl, by rw [hcd]; rfl, by rw [hcd]; rfl, HNw.out.np, HNw.out.room, rfl⟩
          rw [← hbh]
          obtain ⟨y0, y1⟩ := hHeld
          try clear HV1
          try clear HV2
          try clear HV3
          clear HHd HNw HG0 HO0 hcd hcc HTm HS hbh HV4 hs1 hs2 hs3 hs4 hb0 hb1 hb2 hb3 hb4 hss hmm hmk hC1 hC2
          go_wp2_with fail
          go_loopw [32] (fun v wr => ∃ j : Nat, v = .int .i64 (j : Int) ∧ j ≤ nf ∧ Hid (∃ h' c' S' q' m', HdG B w0 wr h' c' S' q' ∧ HOk h' c' S' n j j m' ∧ h'.bh = bh ∧ h'.given = (nf : Int) ∧ h'.nc = steps ∧ c'.np = nf + steps ∧ c'.room = 1048576 ∧ handM cs (fun _ => 0) = handM (cs.drop j) m')) (fun v _ => nf - (intOf v).toNat)
          case atStart => exact ⟨0, rfl, by omega, HE0⟩
          case round =>
            clear HE0
            obtain ⟨j, rfl, hj, hh⟩ := hrel
            obtain ⟨h', c', S', q', m', H, HO, e1, e2, e3, e4, e5, e6⟩ := hh.out
            clear hh
            by_cases hlt : j < nf
            · have tk : decide ((j : Int) < (nf : Int)) = true := decide_eq_true (by omega)
              have tk2 : decide (j < nf) = true := decide_eq_true hlt
              have hjl : j < cs.length := by rw [HLL.out]; exact hlt
              obtain ⟨b, o, Aj, nj, cj, hA, hb, hcl, hrd⟩ := HR.out.get hlt
              subst hA
              have hmem : cs.getD j [] ∈ cs := by rw [getF_lt hjl]; exact List.getElem_mem hjl
              have hdr : cs.drop j = cs.getD j [] :: cs.drop (j + 1) := by rw [List.drop_eq_getElem_cons hjl, getF_lt hjl]
              rw [hdr] at e6
              have d0 : wr.cell? ⟨b, o + j, none⟩ = some (.slice Aj nj cj) := (H.tm.eng.out.cell (p := ⟨b, o + j, none⟩) hb).trans hcl
              have hnj := hrd.len
              have HAd := Lib.hid (hadd_ok H HO e5 (by omega) (by omega) (by omega) j (Nat.le_refl _) (by omega) Aj nj cj _ ((hrd.below H.tm.eng.out).more H.tm.eng.hs) (H32.out _ hmem) (by rw [← hnj]; exact HLN.out _ hmem) (HF.out _ hmem))
              rw [e1] at HAd
              have E := Lib.hid (show _ ∧ _ ∧ _ ∧ _ ∧ _ ∧ _ from ⟨e1, e2, e3, e4, e5, e6⟩)
              clear H HO e1 e2 e3 e4 e5 e6 hrd hcl hmem hdr hnj
              go_wp2_with fail
              refine HAd.out.mono ?_
              rintro e w5 ⟨rfl, h2, c2, S2, q2, a1, a2, a3⟩
              have HN : Hid (∃ h' c' S' q' m', HdG B w0 w5 h' c' S' q' ∧ HOk h' c' S' n (j + 1) (j + 1) m' ∧ h'.bh = bh ∧ h'.given = (nf : Int) ∧ h'.nc = steps ∧ c'.np = nf + steps ∧ c'.room = 1048576 ∧ handM cs (fun _ => 0) = handM (cs.drop (j + 1)) m') := by
                obtain ⟨f1, f2, f3, f4, f5, f6⟩ := E.out
                exact ⟨h2, c2, S2, q2, _, a1, a2, a3.1, a3.2.1.trans f2, a3.2.2.1.trans f3, a3.2.2.2.1.trans f4, a3.2.2.2.2.trans f5, f6⟩
              clear a1 a2 a3 HAd E
              go_wp2_with fail
              go_roundw
              case rel => exact ⟨j + 1, by go_num, by omega, HN⟩
              case measure => simp [intOf]; omega
            · have tk : decide ((j : Int) < (nf : Int)) = false := decide_eq_false (by omega)
              obtain rfl : j = nf := by omega
              have HFin : Hid (NhdTo B w0 n j steps cs (.returned (.pointer (some ⟨bh, 0, none⟩))) wr) := by
                rw [List.drop_eq_nil_of_le (by rw [HLL.out]; exact Nat.le_refl _)] at e6
                refine ⟨h', c', S', q', by rw [e1], H, ?_, e2, e3, e4, e5⟩
                rw [e6]; exact HO
              clear H HO e1 e2 e3 e4 e5 e6
              go_wp2_with fail
              go_ret
              exact HFin.out
        exact AllReadyH.nil
      exact AllReadyH.nil
    exact AllReadyH.nil
  refine AllReadyH.cons rfl (fun K hK => ?_) ?_
  ·
    go_simp
    refine (HTm.out v0 hb0).mono ?_
    rintro e v1 ⟨c, q, rfl, hT, hN, hb, hq, htl⟩
    have hb1 : Below v0.heap.size v0 v1 := hb0.trans (hb.mono hb0.size)
    refine hK.out _ _ (HS.out _ hb1) (fun hHeld => ?_)
    clear hK K
    have hs1 : Below v0.heap.size v0 v1 := hb
    clear hb
    refine wpAnyH_ready (rs := [3, 16]) (by kernel_rfl) (by simp) ?_
    refine AllReadyH.cons rfl (fun K hK => ?_) ?_
    ·
      go_simp
      obtain ⟨v2, hv2⟩ : ∃ v2, v2 = v1.alloc (.map #[] 0) := ⟨_, rfl⟩
      have hb : Below v1.heap.size v1 v2 := by rw [hv2]; exact (Below.refl _ _).alloc (Nat.le_refl _) _
      have hb2 : Below v0.heap.size v0 v2 := hb1.trans (hb.mono hb1.size)
      refine hK.out _ (v1.alloc (.map #[] 0)) (by rw [← hv2]; exact HS.out _ hb2) ?_
      clear hHeld
      intro _
      have hHeld := HS.out v2 hb2
      change wpAnyH _ _ _ _ _ _ _ _ (v1.alloc (.map #[] 0))
      rw [← hv2]
      have HV2 := Lib.hid hv2
      clear hK K hv2
      have hs2 : Below v1.heap.size v1 v2 := hb
      clear hb
      refine wpAnyH_ready (rs := [16]) (by kernel_rfl) (by simp) ?_
      refine AllReadyH.cons rfl (fun K hK => ?_) ?_
      ·
        go_simp
        obtain ⟨v3, hv3⟩ : ∃ v3, v3 = v2.alloc (.cells C 37) := ⟨_, rfl⟩
        have hb : Below v2.heap.size v2 v3 := by rw [hv3]; exact (Below.refl _ _).alloc (Nat.le_refl _) _
        have hb3 : Below v0.heap.size v0 v3 := hb2.trans (hb.mono hb2.size)
        refine hK.out _ (v2.alloc (.cells C 37)) (by rw [← hv3]; exact HS.out _ hb3) ?_
        clear hHeld
        intro _
        have hHeld := HS.out v3 hb3
        change wpAnyH _ _ _ _ _ _ _ _ (v2.alloc (.cells C 37))
        rw [← hv3]
        have HV3 := Lib.hid hv3
        clear hK K hv3
        have hs3 : Below v2.heap.size v2 v3 := hb
        clear hb
        refine wpAnyH_take (i := 17) (v := ?_) rfl (by kernel_rfl) (by kernel_rfl) (by kernel_rfl) (fun _ _ _ h => h) (Or.inl ⟨by kernel_rfl, ?_⟩) (by assumption) ?_
        rotate_left 1
        · intro w hSw
          (try dsimp only at hSw)
          first | (go_simp; done) | (go_simp; with_reducible rfl)
        go_simp
        refine wpAnyH_ready (rs := [18]) (by kernel_rfl) (by simp) ?_
        refine AllReadyH.cons rfl (fun K hK => ?_) ?_
        ·
          go_simp
          have hTf := hT.below (hs2.trans (hs3.mono hs2.size))
          have hmf : v3.heap[v1.heap.size]? = some (.map #[] 0) := (hs3.block _ (by rw [HV2.out]; simp)).trans (by rw [HV2.out]; exact blk_new _ _)
          have hcf : RowV 37 1 v3 v2.heap.size steps steps (fun _ => .slice none 0 0) := RowV.same (w := v3) (by rw [HV3.out]; exact RowV.made (by omega) hC1 hC2) ((Below.refl v3.heap.size v3).block _ (by rw [HV3.out]; simp))
          have hss : v0.heap.size ≤ v1.heap.size ∧ v1.heap.size ≤ v2.heap.size ∧ v2.heap.size ≤ v3.heap.size := ⟨hs1.size, hs2.size, hs3.size⟩
          have hsm : v1.heap.size < v2.heap.size := by rw [HV2.out]; simp
          have hsc : v2.heap.size < v3.heap.size := by rw [HV3.out]; simp
          have hom : q.own v1.heap.size = .no ∧ c.tl v1.heap.size = .no := ⟨hT.eng.fresh (by omega), Classical.byContradiction fun e => by have := (hT.lo _ e).2.2; omega⟩
          have hoc : q.own v2.heap.size = .no ∧ c.tl v2.heap.size = .no := ⟨hT.eng.fresh (by omega), Classical.byContradiction fun e => by have := (hT.lo _ e).2.2; omega⟩
          obtain ⟨hc, hcd⟩ : ∃ hc : HdC, hc = hd0 v3.heap.size v1.heap.size v2.heap.size steps nf := ⟨_, rfl⟩
          have hcc : hc.cells c.bt = #[.map (some v1.heap.size), .pointer (some ⟨c.bt, 0, none⟩), .int .i64 (nf : Nat), .slice (some ⟨v2.heap.size, 0, none⟩) steps steps, .int .i64 (-1)] := by rw [hcd]; rfl
          have HHd := Lib.hid (new_hand hTf hmf hcf hom hoc (by omega) (by omega) (by omega) hN.tr (nf := nf))
          rw [← hcd] at HHd
          have HNw := Lib.hid hN
          clear hTf hmf hcf hom hoc hq htl hT hN hsm hsc
          rw [← hcc]
          obtain ⟨v4, hv4⟩ : ∃ v4, v4 = v3.alloc (.cells (hc.cells c.bt) 51) := ⟨_, rfl⟩
          have hb : Below v3.heap.size v3 v4 := by rw [hv4]; exact (Below.refl _ _).alloc (Nat.le_refl _) _
          have hb4 : Below v0.heap.size v0 v4 := hb3.trans (hb.mono hb3.size)
          refine hK.out _ (v3.alloc (.cells (hc.cells c.bt) 51)) (by rw [← hv4]; exact HS.out _ hb4) ?_
          clear hHeld
          intro _
          have hHeld := HS.out v4 hb4
          change wpAnyH _ _ _ _ _ _ _ _ (v3.alloc (.cells (hc.cells c.bt) 51))
          rw [← hv4]
          have HV4 := Lib.hid hv4
          clear hK K hv4
          have hs4 : Below v3.heap.size v3 v4 := hb
          clear hb
          refine wpAnyH_take (i := 19) (v := ?_) rfl (by kernel_rfl) (by kernel_rfl) (by kernel_rfl) (fun _ _ _ h => h) (Or.inl ⟨by kernel_rfl, ?_⟩) (by assumption) ?_
          rotate_left 1
          · intro w hSw
            (try dsimp only at hSw)
            first | (go_simp; done) | (go_simp; with_reducible rfl)
          go_simp
          refine wpAnyH_done (by kernel_rfl) ?_ _
          have HG0 : Hid (HdG B w0 v4 hc c (newE (n + 1)) q) := by
            have := HHd.out
            unfold Hid
            rw [HV4.out]; exact this
          have HO0 : Hid (HOk hc c (newE (n + 1)) n 0 0 (fun _ => 0)) := ok_new HG0.out.tm.eng.inv HNw.out (by omega) (by rw [hcd]; rfl) (by rw [hcd]; rfl)
          obtain ⟨bh, hbh⟩ : ∃ bh, bh = v3.heap.size := ⟨_, rfl⟩
          have HE0 : Hid (∃ h' c' S' q' m', HdG B w0 v4 h' c' S' q' ∧ HOk h' c' S' n 0 0 m' ∧ h'.bh = bh ∧ h'.given = (nf : Int) ∧ h'.nc = steps ∧ c'.np = nf + steps ∧ c'.room = 1048576 ∧ handM cs (fun _ => 0) = handM (cs.drop 0) m') :=
            ⟨hc, c, _, q, _, HG0.out, HO0.out, by rw [hbh, hcd]; rfl, by rw [hcd]; rfl, by rw [hcd]; rfl, HNw.out.np, HNw.out.room, rfl⟩
          rw [← hbh]
          obtain ⟨y0, y1⟩ := hHeld
          try clear HV1
          try clear HV2
          try clear HV3
          clear HHd HNw HG0 HO0 hcd hcc HTm HS hbh HV4 hs1 hs2 hs3 hs4 hb0 hb1 hb2 hb3 hb4 hss hmm hmk hC1 hC2
          go_wp2_with fail
          go_loopw [32] (fun v wr => ∃ j : Nat, v = .int .i64 (j : Int) ∧ j ≤ nf ∧ Hid (∃ h' c' S' q' m', HdG B w0 wr h' c' S' q' ∧ HOk h' c' S' n j j m' ∧ h'.bh = bh ∧ h'.given = (nf : Int) ∧ h'.nc = steps ∧ c'.np = nf + steps ∧ c'.room = 1048576 ∧ handM cs (fun _ => 0) = handM (cs.drop j) m')) (fun v _ => nf - (intOf v).toNat)
          case atStart => exact ⟨0, rfl, by omega, HE0⟩
          case round =>
            clear HE0
            obtain ⟨j, rfl, hj, hh⟩ := hrel
            obtain ⟨h', c', S', q', m', H, HO, e1, e2, e3, e4, e5, e6⟩ := hh.out
            clear hh
            by_cases hlt : j < nf
            · have tk : decide ((j : Int) < (nf : Int)) = true := decide_eq_true (by omega)
              have tk2 : decide (j < nf) = true := decide_eq_true hlt
              have hjl : j < cs.length := by rw [HLL.out]; exact hlt
              obtain ⟨b, o, Aj, nj, cj, hA, hb, hcl, hrd⟩ := HR.out.get hlt
              subst hA
              have hmem : cs.getD j [] ∈ cs := by rw [getF_lt hjl]; exact List.getElem_mem hjl
              have hdr : cs.drop j = cs.getD j [] :: cs.drop (j + 1) := by rw [List.drop_eq_getElem_cons hjl, getF_lt hjl]
              rw [hdr] at e6
              have d0 : wr.cell? ⟨b, o + j, none⟩ = some (.slice Aj nj cj) := (H.tm.eng.out.cell (p := ⟨b, o + j, none⟩) hb).trans hcl
              have hnj := hrd.len
              have HAd := Lib.hid (hadd_ok H HO e5 (by omega) (by omega) (by omega) j (Nat.le_refl _) (by omega) Aj nj cj _ ((hrd.below H.tm.eng.out).more H.tm.eng.hs) (H32.out _ hmem) (by rw [← hnj]; exact HLN.out _ hmem) (HF.out _ hmem))
              rw [e1] at HAd
              have E := Lib.hid (show _ ∧ _ ∧ _ ∧ _ ∧ _ ∧ _ from ⟨e1, e2, e3, e4, e5, e6⟩)
              clear H HO e1 e2 e3 e4 e5 e6 hrd hcl hmem hdr hnj
              go_wp2_with fail
              refine HAd.out.mono ?_
              rintro e w5 ⟨rfl, h2, c2, S2, q2, a1, a2, a3⟩
              have HN : Hid (∃ h' c' S' q' m', HdG B w0 w5 h' c' S' q' ∧ HOk h' c' S' n (j + 1) (j + 1) m' ∧ h'.bh = bh ∧ h'.given = (nf : Int) ∧ h'.nc = steps ∧ c'.np = nf + steps ∧ c'.room = 1048576 ∧ handM cs (fun _ => 0) = handM (cs.drop (j + 1)) m') := by
                obtain ⟨f1, f2, f3, f4, f5, f6⟩ := E.out
                exact ⟨h2, c2, S2, q2, _, a1, a2, a3.1, a3.2.1.trans f2, a3.2.2.1.trans f3, a3.2.2.2.1.trans f4, a3.2.2.2.2.trans f5, f6⟩
              clear a1 a2 a3 HAd E
              go_wp2_with fail
              go_roundw
              case rel => exact ⟨j + 1, by go_num, by omega, HN⟩
              case measure => simp [intOf]; omega
            · have tk : decide ((j : Int) < (nf : Int)) = false := decide_eq_false (by omega)
              obtain rfl : j = nf := by omega
              have HFin : Hid (NhdTo B w0 n j steps cs (.returned (.pointer (some ⟨bh, 0, none⟩))) wr) := by
                rw [List.drop_eq_nil_of_le (by rw [HLL.out]; exact Nat.le_refl _)] at e6
                refine ⟨h', c', S', q', by rw [e1], H, ?_, e2, e3, e4, e5⟩
                rw [e6]; exact HO
              clear H HO e1 e2 e3 e4 e5 e6
              go_wp2_with fail
              go_ret
              exact HFin.out
        exact AllReadyH.nil
      exact AllReadyH.nil
    refine AllReadyH.cons rfl (fun K hK => ?_) ?_
    ·
      go_simp
      obtain ⟨v2, hv2⟩ : ∃ v2, v2 = v1.alloc (.cells C 37) := ⟨_, rfl⟩
      have hb : Below v1.heap.size v1 v2 := by rw [hv2]; exact (Below.refl _ _).alloc (Nat.le_refl _) _
      have hb2 : Below v0.heap.size v0 v2 := hb1.trans (hb.mono hb1.size)
      refine hK.out _ (v1.alloc (.cells C 37)) (by rw [← hv2]; exact HS.out _ hb2) ?_
      clear hHeld
      intro _
      have hHeld := HS.out v2 hb2
      change wpAnyH _ _ _ _ _ _ _ _ (v1.alloc (.cells C 37))
      rw [← hv2]
      have HV2 := Lib.hid hv2
      clear hK K hv2
      have hs2 : Below v1.heap.size v1 v2 := hb
      clear hb
      refine wpAnyH_ready (rs := [3]) (by kernel_rfl) (by simp) ?_
      refine AllReadyH.cons rfl (fun K hK => ?_) ?_
      ·
        go_simp
        obtain ⟨v3, hv3⟩ : ∃ v3, v3 = v2.alloc (.map #[] 0) := ⟨_, rfl⟩
        have hb : Below v2.heap.size v2 v3 := by rw [hv3]; exact (Below.refl _ _).alloc (Nat.le_refl _) _
        have hb3 : Below v0.heap.size v0 v3 := hb2.trans (hb.mono hb2.size)
        refine hK.out _ (v2.alloc (.map #[] 0)) (by rw [← hv3]; exact HS.out _ hb3) ?_
        clear hHeld
        intro _
        have hHeld := HS.out v3 hb3
        change wpAnyH _ _ _ _ _ _ _ _ (v2.alloc (.map #[] 0))
        rw [← hv3]
        have HV3 := Lib.hid hv3
        clear hK K hv3
        have hs3 : Below v2.heap.size v2 v3 := hb
        clear hb
        refine wpAnyH_take (i := 17) (v := ?_) rfl (by kernel_rfl) (by kernel_rfl) (by kernel_rfl) (fun _ _ _ h => h) (Or.inl ⟨by kernel_rfl, ?_⟩) (by assumption) ?_
        rotate_left 1
        · intro w hSw
          (try dsimp only at hSw)
          first | (go_simp; done) | (go_simp; with_reducible rfl)
        go_simp
        refine wpAnyH_ready (rs := [18]) (by kernel_rfl) (by simp) ?_
        refine AllReadyH.cons rfl (fun K hK => ?_) ?_
        ·
          go_simp
          have hTf := hT.below (hs2.trans (hs3.mono hs2.size))
          have hmf : v3.heap[v2.heap.size]? = some (.map #[] 0) := ((Below.refl v3.heap.size v3).block _ (by rw [HV3.out]; simp)).trans (by rw [HV3.out]; exact blk_new _ _)
          have hcf : RowV 37 1 v3 v1.heap.size steps steps (fun _ => .slice none 0 0) := RowV.same (w := v2) (by rw [HV2.out]; exact RowV.made (by omega) hC1 hC2) (hs3.block _ (by rw [HV2.out]; simp))
          have hss : v0.heap.size ≤ v1.heap.size ∧ v1.heap.size ≤ v2.heap.size ∧ v2.heap.size ≤ v3.heap.size := ⟨hs1.size, hs2.size, hs3.size⟩
          have hsm : v2.heap.size < v3.heap.size := by rw [HV3.out]; simp
          have hsc : v1.heap.size < v2.heap.size := by rw [HV2.out]; simp
          have hom : q.own v2.heap.size = .no ∧ c.tl v2.heap.size = .no := ⟨hT.eng.fresh (by omega), Classical.byContradiction fun e => by have := (hT.lo _ e).2.2; omega⟩
          have hoc : q.own v1.heap.size = .no ∧ c.tl v1.heap.size = .no := ⟨hT.eng.fresh (by omega), Classical.byContradiction fun e => by have := (hT.lo _ e).2.2; omega⟩
          obtain ⟨hc, hcd⟩ : ∃ hc : HdC, hc = hd0 v3.heap.size v2.heap.size v1.heap.size steps nf := ⟨_, rfl⟩
          have hcc : hc.cells c.bt = #[.map (some v2.heap.size), .pointer (some ⟨c.bt, 0, none⟩), .int .i64 (nf : Nat), .slice (some ⟨v1.heap.size, 0, none⟩) steps steps, .int .i64 (-1)] := by rw [hcd]; rfl
          have HHd := Lib.hid (new_hand hTf hmf hcf hom hoc (by omega) (by omega) (by omega) hN.tr (nf := nf))
          rw [← hcd] at HHd
          have HNw := Lib.hid hN
          clear hTf hmf hcf hom hoc hq htl hT hN hsm hsc
          rw [← hcc]
          obtain ⟨v4, hv4⟩ : ∃ v4, v4 = v3.alloc (.cells (hc.cells c.bt) 51) := ⟨_, rfl⟩
          have hb : Below v3.heap.size v3 v4 := by rw [hv4]; exact (Below.refl _ _).alloc (Nat.le_refl _) _
          have hb4 : Below v0.heap.size v0 v4 := hb3.trans (hb.mono hb3.size)
          refine hK.out _ (v3.alloc (.cells (hc.cells c.bt) 51)) (by rw [← hv4]; exact HS.out _ hb4) ?_
          clear hHeld
          intro _
          have hHeld := HS.out v4 hb4
          change wpAnyH _ _ _ _ _ _ _ _ (v3.alloc (.cells (hc.cells c.bt) 51))
          rw [← hv4]
          have HV4 := Lib.hid hv4
          clear hK K hv4
          have hs4 : Below v3.heap.size v3 v4 := hb
          clear hb
          refine wpAnyH_take (i := 19) (v := ?_) rfl (by kernel_rfl) (by kernel_rfl) (by kernel_rfl) (fun _ _ _ h => h) (Or.inl ⟨by kernel_rfl, ?_⟩) (by assumption) ?_
          rotate_left 1
          · intro w hSw
            (try dsimp only at hSw)
            first | (go_simp; done) | (go_simp; with_reducible rfl)
          go_simp
          refine wpAnyH_done (by kernel_rfl) ?_ _
          have HG0 : Hid (HdG B w0 v4 hc c (newE (n + 1)) q) := by
            have := HHd.out
            unfold Hid
            rw [HV4.out]; exact this
          have HO0 : Hid (HOk hc c (newE (n + 1)) n 0 0 (fun _ => 0)) := ok_new HG0.out.tm.eng.inv HNw.out (by omega) (by rw [hcd]; rfl) (by rw [hcd]; rfl)
          obtain ⟨bh, hbh⟩ : ∃ bh, bh = v3.heap.size := ⟨_, rfl⟩
          have HE0 : Hid (∃ h' c' S' q' m', HdG B w0 v4 h' c' S' q' ∧ HOk h' c' S' n 0 0 m' ∧ h'.bh = bh ∧ h'.given = (nf : Int) ∧ h'.nc = steps ∧ c'.np = nf + steps ∧ c'.room = 1048576 ∧ handM cs (fun _ => 0) = handM (cs.drop 0) m') :=
            ⟨hc, c, _, q, _, HG0.out, HO0.out, by rw [hbh, hcd]; rfl, by rw [hcd]; rfl, by rw [hcd]; rfl, HNw.out.np, HNw.out.room, rfl⟩
          rw [← hbh]
          obtain ⟨y0, y1⟩ := hHeld
          try clear HV1
          try clear HV2
          try clear HV3
          clear HHd HNw HG0 HO0 hcd hcc HTm HS hbh HV4 hs1 hs2 hs3 hs4 hb0 hb1 hb2 hb3 hb4 hss hmm hmk hC1 hC2
          go_wp2_with fail
          go_loopw [32] (fun v wr => ∃ j : Nat, v = .int .i64 (j : Int) ∧ j ≤ nf ∧ Hid (∃ h' c' S' q' m', HdG B w0 wr h' c' S' q' ∧ HOk h' c' S' n j j m' ∧ h'.bh = bh ∧ h'.given = (nf : Int) ∧ h'.nc = steps ∧ c'.np = nf + steps ∧ c'.room = 1048576 ∧ handM cs (fun _ => 0) = handM (cs.drop j) m')) (fun v _ => nf - (intOf v).toNat)
          case atStart => exact ⟨0, rfl, by omega, HE0⟩
          case round =>
            clear HE0
            obtain ⟨j, rfl, hj, hh⟩ := hrel
            obtain ⟨h', c', S', q', m', H, HO, e1, e2, e3, e4, e5, e6⟩ := hh.out
            clear hh
            by_cases hlt : j < nf
            · have tk : decide ((j : Int) < (nf : Int)) = true := decide_eq_true (by omega)
              have tk2 : decide (j < nf) = true := decide_eq_true hlt
              have hjl : j < cs.length := by rw [HLL.out]; exact hlt
              obtain ⟨b, o, Aj, nj, cj, hA, hb, hcl, hrd⟩ := HR.out.get hlt
              subst hA
              have hmem : cs.getD j [] ∈ cs := by rw [getF_lt hjl]; exact List.getElem_mem hjl
              have hdr : cs.drop j = cs.getD j [] :: cs.drop (j + 1) := by rw [List.drop_eq_getElem_cons hjl, getF_lt hjl]
              rw [hdr] at e6
              have d0 : wr.cell? ⟨b, o + j, none⟩ = some (.slice Aj nj cj) := (H.tm.eng.out.cell (p := ⟨b, o + j, none⟩) hb).trans hcl
              have hnj := hrd.len
              have HAd := Lib.hid (hadd_ok H HO e5 (by omega) (by omega) (by omega) j (Nat.le_refl _) (by omega) Aj nj cj _ ((hrd.below H.tm.eng.out).more H.tm.eng.hs) (H32.out _ hmem) (by rw [← hnj]; exact HLN.out _ hmem) (HF.out _ hmem))
              rw [e1] at HAd
              have E := Lib.hid (show _ ∧ _ ∧ _ ∧ _ ∧ _ ∧ _ from ⟨e1, e2, e3, e4, e5, e6⟩)
              clear H HO e1 e2 e3 e4 e5 e6 hrd hcl hmem hdr hnj
              go_wp2_with fail
              refine HAd.out.mono ?_
              rintro e w5 ⟨rfl, h2, c2, S2, q2, a1, a2, a3⟩
              have HN : Hid (∃ h' c' S' q' m', HdG B w0 w5 h' c' S' q' ∧ HOk h' c' S' n (j + 1) (j + 1) m' ∧ h'.bh = bh ∧ h'.given = (nf : Int) ∧ h'.nc = steps ∧ c'.np = nf + steps ∧ c'.room = 1048576 ∧ handM cs (fun _ => 0) = handM (cs.drop (j + 1)) m') := by
                obtain ⟨f1, f2, f3, f4, f5, f6⟩ := E.out
                exact ⟨h2, c2, S2, q2, _, a1, a2, a3.1, a3.2.1.trans f2, a3.2.2.1.trans f3, a3.2.2.2.1.trans f4, a3.2.2.2.2.trans f5, f6⟩
              clear a1 a2 a3 HAd E
              go_wp2_with fail
              go_roundw
              case rel => exact ⟨j + 1, by go_num, by omega, HN⟩
              case measure => simp [intOf]; omega
            · have tk : decide ((j : Int) < (nf : Int)) = false := decide_eq_false (by omega)
              obtain rfl : j = nf := by omega
              have HFin : Hid (NhdTo B w0 n j steps cs (.returned (.pointer (some ⟨bh, 0, none⟩))) wr) := by
                rw [List.drop_eq_nil_of_le (by rw [HLL.out]; exact Nat.le_refl _)] at e6
                refine ⟨h', c', S', q', by rw [e1], H, ?_, e2, e3, e4, e5⟩
                rw [e6]; exact HO
              clear H HO e1 e2 e3 e4 e5 e6
              go_wp2_with fail
              go_ret
              exact HFin.out
        exact AllReadyH.nil
      exact AllReadyH.nil
    exact AllReadyH.nil
  refine AllReadyH.cons rfl (fun K hK => ?_) ?_
  ·
    go_simp
    obtain ⟨v1, hv1⟩ : ∃ v1, v1 = v0.alloc (.cells C 37) := ⟨_, rfl⟩
    have hb : Below v0.heap.size v0 v1 := by rw [hv1]; exact (Below.refl _ _).alloc (Nat.le_refl _) _
    have hb1 : Below v0.heap.size v0 v1 := hb0.trans (hb.mono hb0.size)
    refine hK.out _ (v0.alloc (.cells C 37)) (by rw [← hv1]; exact HS.out _ hb1) ?_
    clear hHeld
    intro _
    have hHeld := HS.out v1 hb1
    change wpAnyH _ _ _ _ _ _ _ _ (v0.alloc (.cells C 37))
    rw [← hv1]
    have HV1 := Lib.hid hv1
    clear hK K hv1
    have hs1 : Below v0.heap.size v0 v1 := hb
    clear hb
    refine wpAnyH_ready (rs := [3, 11]) (by kernel_rfl) (by simp) ?_
    refine AllReadyH.cons rfl (fun K hK => ?_) ?_
    ·
      go_simp
      obtain ⟨v2, hv2⟩ : ∃ v2, v2 = v1.alloc (.map #[] 0) := ⟨_, rfl⟩
      have hb : Below v1.heap.size v1 v2 := by rw [hv2]; exact (Below.refl _ _).alloc (Nat.le_refl _) _
      have hb2 : Below v0.heap.size v0 v2 := hb1.trans (hb.mono hb1.size)
      refine hK.out _ (v1.alloc (.map #[] 0)) (by rw [← hv2]; exact HS.out _ hb2) ?_
      clear hHeld
      intro _
      have hHeld := HS.out v2 hb2
      change wpAnyH _ _ _ _ _ _ _ _ (v1.alloc (.map #[] 0))
      rw [← hv2]
      have HV2 := Lib.hid hv2
      clear hK K hv2
      have hs2 : Below v1.heap.size v1 v2 := hb
      clear hb
      refine wpAnyH_ready (rs := [11]) (by kernel_rfl) (by simp) ?_
      refine AllReadyH.cons rfl (fun K hK => ?_) ?_
      ·
        go_simp
        refine (HTm.out v2 hb2).mono ?_
        rintro e v3 ⟨c, q, rfl, hT, hN, hb, hq, htl⟩
        have hb3 : Below v0.heap.size v0 v3 := hb2.trans (hb.mono hb2.size)
        refine hK.out _ _ (HS.out _ hb3) (fun hHeld => ?_)
        clear hK K
        have hs3 : Below v2.heap.size v2 v3 := hb
        clear hb
        refine wpAnyH_take (i := 17) (v := ?_) rfl (by kernel_rfl) (by kernel_rfl) (by kernel_rfl) (fun _ _ _ h => h) (Or.inl ⟨by kernel_rfl, ?_⟩) (by assumption) ?_
        rotate_left 1
        · intro w hSw
          (try dsimp only at hSw)
          first | (go_simp; done) | (go_simp; with_reducible rfl)
        go_simp
        refine wpAnyH_ready (rs := [18]) (by kernel_rfl) (by simp) ?_
        refine AllReadyH.cons rfl (fun K hK => ?_) ?_
        ·
          go_simp
          have hTf := hT.below (Below.refl v3.heap.size v3)
          have hmf : v3.heap[v1.heap.size]? = some (.map #[] 0) := (hs3.block _ (by rw [HV2.out]; simp)).trans (by rw [HV2.out]; exact blk_new _ _)
          have hcf : RowV 37 1 v3 v0.heap.size steps steps (fun _ => .slice none 0 0) := RowV.same (w := v1) (by rw [HV1.out]; exact RowV.made (by omega) hC1 hC2) ((hs2.trans (hs3.mono hs2.size)).block _ (by rw [HV1.out]; simp))
          have hss : v0.heap.size ≤ v1.heap.size ∧ v1.heap.size ≤ v2.heap.size ∧ v2.heap.size ≤ v3.heap.size := ⟨hs1.size, hs2.size, hs3.size⟩
          have hsm : v1.heap.size < v2.heap.size := by rw [HV2.out]; simp
          have hsc : v0.heap.size < v1.heap.size := by rw [HV1.out]; simp
          have hom : q.own v1.heap.size = .no ∧ c.tl v1.heap.size = .no := ⟨Classical.byContradiction fun e => by have := hq _ e; omega, Classical.byContradiction fun e => by have := htl _ e; omega⟩
          have hoc : q.own v0.heap.size = .no ∧ c.tl v0.heap.size = .no := ⟨Classical.byContradiction fun e => by have := hq _ e; omega, Classical.byContradiction fun e => by have := htl _ e; omega⟩
          obtain ⟨hc, hcd⟩ : ∃ hc : HdC, hc = hd0 v3.heap.size v1.heap.size v0.heap.size steps nf := ⟨_, rfl⟩
          have hcc : hc.cells c.bt = #[.map (some v1.heap.size), .pointer (some ⟨c.bt, 0, none⟩), .int .i64 (nf : Nat), .slice (some ⟨v0.heap.size, 0, none⟩) steps steps, .int .i64 (-1)] := by rw [hcd]; rfl
          have HHd := Lib.hid (new_hand hTf hmf hcf hom hoc (by omega) (by omega) (by omega) hN.tr (nf := nf))
          rw [← hcd] at HHd
          have HNw := Lib.hid hN
          clear hTf hmf hcf hom hoc hq htl hT hN hsm hsc
          rw [← hcc]
          obtain ⟨v4, hv4⟩ : ∃ v4, v4 = v3.alloc (.cells (hc.cells c.bt) 51) := ⟨_, rfl⟩
          have hb : Below v3.heap.size v3 v4 := by rw [hv4]; exact (Below.refl _ _).alloc (Nat.le_refl _) _
          have hb4 : Below v0.heap.size v0 v4 := hb3.trans (hb.mono hb3.size)
          refine hK.out _ (v3.alloc (.cells (hc.cells c.bt) 51)) (by rw [← hv4]; exact HS.out _ hb4) ?_
          clear hHeld
          intro _
          have hHeld := HS.out v4 hb4
          change wpAnyH _ _ _ _ _ _ _ _ (v3.alloc (.cells (hc.cells c.bt) 51))
          rw [← hv4]
          have HV4 := Lib.hid hv4
          clear hK K hv4
          have hs4 : Below v3.heap.size v3 v4 := hb
          clear hb
          refine wpAnyH_take (i := 19) (v := ?_) rfl (by kernel_rfl) (by kernel_rfl) (by kernel_rfl) (fun _ _ _ h => h) (Or.inl ⟨by kernel_rfl, ?_⟩) (by assumption) ?_
          rotate_left 1
          · intro w hSw
            (try dsimp only at hSw)
            first | (go_simp; done) | (go_simp; with_reducible rfl)
          go_simp
          refine wpAnyH_done (by kernel_rfl) ?_ _
          have HG0 : Hid (HdG B w0 v4 hc c (newE (n + 1)) q) := by
            have := HHd.out
            unfold Hid
            rw [HV4.out]; exact this
          have HO0 : Hid (HOk hc c (newE (n + 1)) n 0 0 (fun _ => 0)) := ok_new HG0.out.tm.eng.inv HNw.out (by omega) (by rw [hcd]; rfl) (by rw [hcd]; rfl)
          obtain ⟨bh, hbh⟩ : ∃ bh, bh = v3.heap.size := ⟨_, rfl⟩
          have HE0 : Hid (∃ h' c' S' q' m', HdG B w0 v4 h' c' S' q' ∧ HOk h' c' S' n 0 0 m' ∧ h'.bh = bh ∧ h'.given = (nf : Int) ∧ h'.nc = steps ∧ c'.np = nf + steps ∧ c'.room = 1048576 ∧ handM cs (fun _ => 0) = handM (cs.drop 0) m') :=
            ⟨hc, c, _, q, _, HG0.out, HO0.out, by rw [hbh, hcd]; rfl, by rw [hcd]; rfl, by rw [hcd]; rfl, HNw.out.np, HNw.out.room, rfl⟩
          rw [← hbh]
          obtain ⟨y0, y1⟩ := hHeld
          try clear HV1
          try clear HV2
          try clear HV3
          clear HHd HNw HG0 HO0 hcd hcc HTm HS hbh HV4 hs1 hs2 hs3 hs4 hb0 hb1 hb2 hb3 hb4 hss hmm hmk hC1 hC2
          go_wp2_with fail
          go_loopw [32] (fun v wr => ∃ j : Nat, v = .int .i64 (j : Int) ∧ j ≤ nf ∧ Hid (∃ h' c' S' q' m', HdG B w0 wr h' c' S' q' ∧ HOk h' c' S' n j j m' ∧ h'.bh = bh ∧ h'.given = (nf : Int) ∧ h'.nc = steps ∧ c'.np = nf + steps ∧ c'.room = 1048576 ∧ handM cs (fun _ => 0) = handM (cs.drop j) m')) (fun v _ => nf - (intOf v).toNat)
          case atStart => exact ⟨0, rfl, by omega, HE0⟩
          case round =>
            clear HE0
            obtain ⟨j, rfl, hj, hh⟩ := hrel
            obtain ⟨h', c', S', q', m', H, HO, e1, e2, e3, e4, e5, e6⟩ := hh.out
            clear hh
            by_cases hlt : j < nf
            · have tk : decide ((j : Int) < (nf : Int)) = true := decide_eq_true (by omega)
              have tk2 : decide (j < nf) = true := decide_eq_true hlt
              have hjl : j < cs.length := by rw [HLL.out]; exact hlt
              obtain ⟨b, o, Aj, nj, cj, hA, hb, hcl, hrd⟩ := HR.out.get hlt
              subst hA
              have hmem : cs.getD j [] ∈ cs := by rw [getF_lt hjl]; exact List.getElem_mem hjl
              have hdr : cs.drop j = cs.getD j [] :: cs.drop (j + 1) := by rw [List.drop_eq_getElem_cons hjl, getF_lt hjl]
              rw [hdr] at e6
              have d0 : wr.cell? ⟨b, o + j, none⟩ = some (.slice Aj nj cj) := (H.tm.eng.out.cell (p := ⟨b, o + j, none⟩) hb).trans hcl
              have hnj := hrd.len
              have HAd := Lib.hid (hadd_ok H HO e5 (by omega) (by omega) (by omega) j (Nat.le_refl _) (by omega) Aj nj cj _ ((hrd.below H.tm.eng.out).more H.tm.eng.hs) (H32.out _ hmem) (by rw [← hnj]; exact HLN.out _ hmem) (HF.out _ hmem))
              rw [e1] at HAd
              have E := Lib.hid (show _ ∧ _ ∧ _ ∧ _ ∧ _ ∧ _ from ⟨e1, e2, e3, e4, e5, e6⟩)
              clear H HO e1 e2 e3 e4 e5 e6 hrd hcl hmem hdr hnj
              go_wp2_with fail
              refine HAd.out.mono ?_
              rintro e w5 ⟨rfl, h2, c2, S2, q2, a1, a2, a3⟩
              have HN : Hid (∃ h' c' S' q' m', HdG B w0 w5 h' c' S' q' ∧ HOk h' c' S' n (j + 1) (j + 1) m' ∧ h'.bh = bh ∧ h'.given = (nf : Int) ∧ h'.nc = steps ∧ c'.np = nf + steps ∧ c'.room = 1048576 ∧ handM cs (fun _ => 0) = handM (cs.drop (j + 1)) m') := by
                obtain ⟨f1, f2, f3, f4, f5, f6⟩ := E.out
                exact ⟨h2, c2, S2, q2, _, a1, a2, a3.1, a3.2.1.trans f2, a3.2.2.1.trans f3, a3.2.2.2.1.trans f4, a3.2.2.2.2.trans f5, f6⟩
              clear a1 a2 a3 HAd E
              go_wp2_with fail
              go_roundw
              case rel => exact ⟨j + 1, by go_num, by omega, HN⟩
              case measure => simp [intOf]; omega
            · have tk : decide ((j : Int) < (nf : Int)) = false := decide_eq_false (by omega)
              obtain rfl : j = nf := by omega
              have HFin : Hid (NhdTo B w0 n j steps cs (.returned (.pointer (some ⟨bh, 0, none⟩))) wr) := by
                rw [List.drop_eq_nil_of_le (by rw [HLL.out]; exact Nat.le_refl _)] at e6
                refine ⟨h', c', S', q', by rw [e1], H, ?_, e2, e3, e4, e5⟩
                rw [e6]; exact HO
              clear H HO e1 e2 e3 e4 e5 e6
              go_wp2_with fail
              go_ret
              exact HFin.out
        exact AllReadyH.nil
      exact AllReadyH.nil
    refine AllReadyH.cons rfl (fun K hK => ?_) ?_
    ·
      go_simp
      refine (HTm.out v1 hb1).mono ?_
      rintro e v2 ⟨c, q, rfl, hT, hN, hb, hq, htl⟩
      have hb2 : Below v0.heap.size v0 v2 := hb1.trans (hb.mono hb1.size)
      refine hK.out _ _ (HS.out _ hb2) (fun hHeld => ?_)
      clear hK K
      have hs2 : Below v1.heap.size v1 v2 := hb
      clear hb
      refine wpAnyH_ready (rs := [3]) (by kernel_rfl) (by simp) ?_
      refine AllReadyH.cons rfl (fun K hK => ?_) ?_
      ·
        go_simp
        obtain ⟨v3, hv3⟩ : ∃ v3, v3 = v2.alloc (.map #[] 0) := ⟨_, rfl⟩
        have hb : Below v2.heap.size v2 v3 := by rw [hv3]; exact (Below.refl _ _).alloc (Nat.le_refl _) _
        have hb3 : Below v0.heap.size v0 v3 := hb2.trans (hb.mono hb2.size)
        refine hK.out _ (v2.alloc (.map #[] 0)) (by rw [← hv3]; exact HS.out _ hb3) ?_
        clear hHeld
        intro _
        have hHeld := HS.out v3 hb3
        change wpAnyH _ _ _ _ _ _ _ _ (v2.alloc (.map #[] 0))
        rw [← hv3]
        have HV3 := Lib.hid hv3
        clear hK K hv3
        have hs3 : Below v2.heap.size v2 v3 := hb
        clear hb
        refine wpAnyH_take (i := 17) (v := ?_) rfl (by kernel_rfl) (by kernel_rfl) (by kernel_rfl) (fun _ _ _ h => h) (Or.inl ⟨by kernel_rfl, ?_⟩) (by assumption) ?_
        rotate_left 1
        · intro w hSw
          (try dsimp only at hSw)
          first | (go_simp; done) | (go_simp; with_reducible rfl)
        go_simp
        refine wpAnyH_ready (rs := [18]) (by kernel_rfl) (by simp) ?_
        refine AllReadyH.cons rfl (fun K hK => ?_) ?_
        ·
          go_simp
          have hTf := hT.below hs3
          have hmf : v3.heap[v2.heap.size]? = some (.map #[] 0) := ((Below.refl v3.heap.size v3).block _ (by rw [HV3.out]; simp)).trans (by rw [HV3.out]; exact blk_new _ _)
          have hcf : RowV 37 1 v3 v0.heap.size steps steps (fun _ => .slice none 0 0) := RowV.same (w := v1) (by rw [HV1.out]; exact RowV.made (by omega) hC1 hC2) ((hs2.trans (hs3.mono hs2.size)).block _ (by rw [HV1.out]; simp))
          have hss : v0.heap.size ≤ v1.heap.size ∧ v1.heap.size ≤ v2.heap.size ∧ v2.heap.size ≤ v3.heap.size := ⟨hs1.size, hs2.size, hs3.size⟩
          have hsm : v2.heap.size < v3.heap.size := by rw [HV3.out]; simp
          have hsc : v0.heap.size < v1.heap.size := by rw [HV1.out]; simp
          have hom : q.own v2.heap.size = .no ∧ c.tl v2.heap.size = .no := ⟨hT.eng.fresh (by omega), Classical.byContradiction fun e => by have := (hT.lo _ e).2.2; omega⟩
          have hoc : q.own v0.heap.size = .no ∧ c.tl v0.heap.size = .no := ⟨Classical.byContradiction fun e => by have := hq _ e; omega, Classical.byContradiction fun e => by have := htl _ e; omega⟩
          obtain ⟨hc, hcd⟩ : ∃ hc : HdC, hc = hd0 v3.heap.size v2.heap.size v0.heap.size steps nf := ⟨_, rfl⟩
          have hcc : hc.cells c.bt = #[.map (some v2.heap.size), .pointer (some ⟨c.bt, 0, none⟩), .int .i64 (nf : Nat), .slice (some ⟨v0.heap.size, 0, none⟩) steps steps, .int .i64 (-1)] := by rw [hcd]; rfl
          have HHd := Lib.hid (new_hand hTf hmf hcf hom hoc (by omega) (by omega) (by omega) hN.tr (nf := nf))
          rw [← hcd] at HHd
          have HNw := Lib.hid hN
          clear hTf hmf hcf hom hoc hq htl hT hN hsm hsc
          rw [← hcc]
          obtain ⟨v4, hv4⟩ : ∃ v4, v4 = v3.alloc (.cells (hc.cells c.bt) 51) := ⟨_, rfl⟩
          have hb : Below v3.heap.size v3 v4 := by rw [hv4]; exact (Below.refl _ _).alloc (Nat.le_refl _) _
          have hb4 : Below v0.heap.size v0 v4 := hb3.trans (hb.mono hb3.size)
          refine hK.out _ (v3.alloc (.cells (hc.cells c.bt) 51)) (by rw [← hv4]; exact HS.out _ hb4) ?_
          clear hHeld
          intro _
          have hHeld := HS.out v4 hb4
          change wpAnyH _ _ _ _ _ _ _ _ (v3.alloc (.cells (hc.cells c.bt) 51))
          rw [← hv4]
          have HV4 := Lib.hid hv4
          clear hK K hv4
          have hs4 : Below v3.heap.size v3 v4 := hb
          clear hb
          refine wpAnyH_take (i := 19) (v := ?_) rfl (by kernel_rfl) (by kernel_rfl) (by kernel_rfl) (fun _ _ _ h => h) (Or.inl ⟨by kernel_rfl, ?_⟩) (by assumption) ?_
          rotate_left 1
          · intro w hSw
            (try dsimp only at hSw)
            first | (go_simp; done) | (go_simp; with_reducible rfl)
          go_simp
          refine wpAnyH_done (by kernel_rfl) ?_ _
          have HG0 : Hid (HdG B w0 v4 hc c (newE (n + 1)) q) := by
            have := HHd.out
            unfold Hid
            rw [HV4.out]; exact this
          have HO0 : Hid (HOk hc c (newE (n + 1)) n 0 0 (fun _ => 0)) := ok_new HG0.out.tm.eng.inv HNw.out (by omega) (by rw [hcd]; rfl) (by rw [hcd]; rfl)
          obtain ⟨bh, hbh⟩ : ∃ bh, bh = v3.heap.size := ⟨_, rfl⟩
          have HE0 : Hid (∃ h' c' S' q' m', HdG B w0 v4 h' c' S' q' ∧ HOk h' c' S' n 0 0 m' ∧ h'.bh = bh ∧ h'.given = (nf : Int) ∧ h'.nc = steps ∧ c'.np = nf + steps ∧ c'.room = 1048576 ∧ handM cs (fun _ => 0) = handM (cs.drop 0) m') :=
            ⟨hc, c, _, q, _, HG0.out, HO0.out, by rw [hbh, hcd]; rfl, by rw [hcd]; rfl, by rw [hcd]; rfl, HNw.out.np, HNw.out.room, rfl⟩
          rw [← hbh]
          obtain ⟨y0, y1⟩ := hHeld
          try clear HV1
          try clear HV2
          try clear HV3
          clear HHd HNw HG0 HO0 hcd hcc HTm HS hbh HV4 hs1 hs2 hs3 hs4 hb0 hb1 hb2 hb3 hb4 hss hmm hmk hC1 hC2
          go_wp2_with fail
          go_loopw [32] (fun v wr => ∃ j : Nat, v = .int .i64 (j : Int) ∧ j ≤ nf ∧ Hid (∃ h' c' S' q' m', HdG B w0 wr h' c' S' q' ∧ HOk h' c' S' n j j m' ∧ h'.bh = bh ∧ h'.given = (nf : Int) ∧ h'.nc = steps ∧ c'.np = nf + steps ∧ c'.room = 1048576 ∧ handM cs (fun _ => 0) = handM (cs.drop j) m')) (fun v _ => nf - (intOf v).toNat)
          case atStart => exact ⟨0, rfl, by omega, HE0⟩
          case round =>
            clear HE0
            obtain ⟨j, rfl, hj, hh⟩ := hrel
            obtain ⟨h', c', S', q', m', H, HO, e1, e2, e3, e4, e5, e6⟩ := hh.out
            clear hh
            by_cases hlt : j < nf
            · have tk : decide ((j : Int) < (nf : Int)) = true := decide_eq_true (by omega)
              have tk2 : decide (j < nf) = true := decide_eq_true hlt
              have hjl : j < cs.length := by rw [HLL.out]; exact hlt
              obtain ⟨b, o, Aj, nj, cj, hA, hb, hcl, hrd⟩ := HR.out.get hlt
              subst hA
              have hmem : cs.getD j [] ∈ cs := by rw [getF_lt hjl]; exact List.getElem_mem hjl
              have hdr : cs.drop j = cs.getD j [] :: cs.drop (j + 1) := by rw [List.drop_eq_getElem_cons hjl, getF_lt hjl]
              rw [hdr] at e6
              have d0 : wr.cell? ⟨b, o + j, none⟩ = some (.slice Aj nj cj) := (H.tm.eng.out.cell (p := ⟨b, o + j, none⟩) hb).trans hcl
              have hnj := hrd.len
              have HAd := Lib.hid (hadd_ok H HO e5 (by omega) (by omega) (by omega) j (Nat.le_refl _) (by omega) Aj nj cj _ ((hrd.below H.tm.eng.out).more H.tm.eng.hs) (H32.out _ hmem) (by rw [← hnj]; exact HLN.out _ hmem) (HF.out _ hmem))
              rw [e1] at HAd
              have E := Lib.hid (show _ ∧ _ ∧ _ ∧ _ ∧ _ ∧ _ from ⟨e1, e2, e3, e4, e5, e6⟩)
              clear H HO e1 e2 e3 e4 e5 e6 hrd hcl hmem hdr hnj
              go_wp2_with fail
              refine HAd.out.mono ?_
              rintro e w5 ⟨rfl, h2, c2, S2, q2, a1, a2, a3⟩
              have HN : Hid (∃ h' c' S' q' m', HdG B w0 w5 h' c' S' q' ∧ HOk h' c' S' n (j + 1) (j + 1) m' ∧ h'.bh = bh ∧ h'.given = (nf : Int) ∧ h'.nc = steps ∧ c'.np = nf + steps ∧ c'.room = 1048576 ∧ handM cs (fun _ => 0) = handM (cs.drop (j + 1)) m') := by
                obtain ⟨f1, f2, f3, f4, f5, f6⟩ := E.out
                exact ⟨h2, c2, S2, q2, _, a1, a2, a3.1, a3.2.1.trans f2, a3.2.2.1.trans f3, a3.2.2.2.1.trans f4, a3.2.2.2.2.trans f5, f6⟩
              clear a1 a2 a3 HAd E
              go_wp2_with fail
              go_roundw
              case rel => exact ⟨j + 1, by go_num, by omega, HN⟩
              case measure => simp [intOf]; omega
            · have tk : decide ((j : Int) < (nf : Int)) = false := decide_eq_false (by omega)
              obtain rfl : j = nf := by omega
              have HFin : Hid (NhdTo B w0 n j steps cs (.returned (.pointer (some ⟨bh, 0, none⟩))) wr) := by
                rw [List.drop_eq_nil_of_le (by rw [HLL.out]; exact Nat.le_refl _)] at e6
                refine ⟨h', c', S', q', by rw [e1], H, ?_, e2, e3, e4, e5⟩
                rw [e6]; exact HO
              clear H HO e1 e2 e3 e4 e5 e6
              go_wp2_with fail
              go_ret
              exact HFin.out
        exact AllReadyH.nil
      exact AllReadyH.nil
    exact AllReadyH.nil
  exact AllReadyH.nil
end
end Go.Proofs.YtkckodpfhlpkgaaGreat
