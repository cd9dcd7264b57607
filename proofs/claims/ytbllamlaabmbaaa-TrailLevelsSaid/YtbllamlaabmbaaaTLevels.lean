/- TrailLevels is true: the statement Rows.TrailLevelsSaid, without a condition. -/
import Derived.Test.YtbllamlaabmbaaaTLiveG
import Derived.Test.YtbllamlaabmbaaaRone
import Derived.Deep.RegionWith
import Derived.Deep.QuietTactic
import Derived.Deep.CutBlock
namespace Go.Proofs.Ytbllamlaabmbaaa.TLevels
open Go.ChangeShapes Go.WideShapes Go.ChangeAt Go.RowKit LitM TrailM

/-- What has just been decided. -/
theorem dec_facts {n d : Nat} {L : List Ent} {l : Int} (_ : Ok n d L) (he : errZ n L l = 0) : decD n d L l = d + 1 ∧ levZ (decL n d L l) (varZ l) = ((d + 1 : Nat) : Int) ∧ atZ' (decL n d L l) (((decL n d L l).length : Int) - 1) = l := by
  obtain ⟨q, hq, q1, q2, hf, _⟩ : ∃ q : Nat, varZ l = (q : Int) ∧ 1 ≤ q ∧ q ≤ n ∧ findE L (varZ l) = none ∧ errZ n L l = 0 := by
    rcases errZ_cases n L l with ⟨_, h⟩ | ⟨_, h⟩ | ⟨_, h⟩
    · omega
    · omega
    · exact h
  unfold decD decL
  rw [if_pos he, if_pos he]
  refine ⟨rfl, ?_, ?_⟩
  · unfold levZ
    rw [find_snoc L ⟨l, d + 1, -1⟩ hf, if_pos rfl]
  · unfold atZ'
    rw [if_pos (by simp; omega)]
    rw [litE_at _ (by simp)]
    simp
theorem dec_no {n d : Nat} {L : List Ent} {l : Int} (he : errZ n L l ≠ 0) : decD n d L l = d ∧ decL n d L l = L := by
  unfold decD decL; rw [if_neg he, if_neg he]; exact ⟨rfl, rfl⟩
theorem levels_rise {n d : Nat} {L : List Ent} (hO : Ok n d L) {i j : Nat} (hij : i ≤ j) (hj : j < L.length) : (L[i]'(by omega)).lv ≤ L[j].lv := by
  by_cases e : i = j
  · subst e; exact Nat.le_refl _
  · exact List.pairwise_iff_getElem.1 hO.pre.inc i j (by omega) hj (by omega)
/-- What is asked of the i-th true one. -/
theorem at_facts {n d : Nat} {L : List Ent} (hO : Ok n d L) {i : Nat} (hi : i < L.length) : ∃ q : Nat, varZ L[i].l = (q : Int) ∧ 1 ≤ q ∧ q ≤ n ∧ atZ' L (i : Int) = L[i].l ∧ levZ L (q : Int) = (L[i].lv : Int) ∧ L[i].lv ≤ d ∧ valZ L L[i].l = 1 ∧ valZ L (-L[i].l) = -1 ∧ -2147483648 ≤ L[i].l ∧ L[i].l ≤ 2147483647 ∧ -2147483648 ≤ -L[i].l ∧ -L[i].l ≤ 2147483647 := by
  have hm := List.getElem_mem hi
  have h1 := hO.pre.one _ hm
  have h2 := varZ_ge h1.1
  have h3 := (one_iff _).1 h1.1
  have hf := hO.pre.find hm
  have hq : varZ L[i].l = ((varZ L[i].l).toNat : Int) := by omega
  refine ⟨(varZ L[i].l).toNat, hq, by omega, by omega, ?_, ?_, h1.2.2, ?_, ?_, by omega, by omega, by omega, by omega⟩
  · unfold atZ'; rw [if_pos (by omega), Int.toNat_natCast, litE_at _ hi]
  · unfold levZ; rw [← hq, hf]
  · unfold valZ; rw [hf]; simp
  · have hv : varZ (-L[i].l) = varZ L[i].l := by
      rcases h3 with ⟨a, b⟩ | ⟨a, b⟩
      · rw [varZ_pos a b, varZ_neg (by omega) (by omega)]; omega
      · rw [varZ_neg a b, varZ_pos (by omega) (by omega)]
    unfold valZ
    rw [hv, hf]
    show (if L[i].l = -L[i].l then (1 : Int) else -1) = -1
    rw [if_neg (by omega)]
/-- Is variable j among the first i? -/
def seenB (L : List Ent) (i j : Nat) : Bool := (L.take i).any fun x => varZ x.l == (j : Int)
theorem seen_no {n d : Nat} {L : List Ent} (hO : Ok n d L) {i q : Nat} (hi : i < L.length) (hq : varZ L[i].l = (q : Int)) : seenB L i q = false := by
  unfold seenB
  rw [List.any_eq_false]
  intro x hx
  obtain ⟨k, hk, rfl⟩ := List.getElem_of_mem hx
  rw [List.length_take] at hk
  have := List.pairwise_iff_getElem.1 hO.pre.dis k i (by omega) hi (by omega)
  rw [List.getElem_take]
  simp
  rw [← hq]; exact this
theorem seen_step {L : List Ent} {i q : Nat} (hi : i < L.length) (hq : varZ L[i].l = (q : Int)) (j : Nat) : seenB L (i + 1) j = if j = q then true else seenB L i j := by
  unfold seenB
  rw [List.take_succ_eq_append_getElem hi, List.any_append]
  by_cases e : j = q
  · subst e; simp [hq]
  · rw [if_neg e]
    have : ((q : Int) == (j : Int)) = false := by rw [beq_eq_false_iff_ne]; omega
    simp [hq, this]
theorem seen_all {n d : Nat} {L : List Ent} (_ : Ok n d L) {j : Nat} (h : seenB L L.length j = false) (h1 : 1 ≤ j) (h2 : j ≤ 262144) : valZ L (j : Int) = 0 := by
  unfold seenB at h
  rw [List.take_length, List.any_eq_false] at h
  unfold valZ
  rw [varZ_pos (by omega) (by omega)]
  rw [findE_none.2 fun x hx => by have := h x hx; simpa using this]

set_option maxHeartbeats 6400000 in
set_option maxRecDepth 100000 in
theorem walk (A : Option Addr) (n c : Nat) (w : World) (hx : Acts w w.heap.size A n) :
    Calls Try.prog 6 #[.slice A n c] w fun e w' => e = .returned (.bool true) ∧ Below w.heap.size w w' := by
  have HX := Lib.hid hx
  clear hx
  have hpb : Try.prog.built 55 [] = some #[.bool false, .bool false, .bool false, .bool false, .bool false, .bool false, .bool false, .bool false, .bool false, .bool false, .bool false, .bool false, .bool false] := by kernel_rfl
  have hpi : (Try.prog.info? 55).map (fun i => (i.zero, i.size)) = some (some (.agg #[.bool false, .bool false, .bool false, .bool false, .bool false, .bool false, .bool false, .bool false, .bool false, .bool false, .bool false, .bool false, .bool false]), 13) := by kernel_rfl
  obtain ⟨C, hC1, hC2, hC3, hC4, hC5⟩ : ∃ C : Array Value, Try.prog.built 55 [] = some C ∧ (Try.prog.info? 55).map (fun i => (i.zero, i.size)) = some (some (.agg C), C.size) ∧ C.all (·.oneCell') = true ∧ C.size = 13 ∧ ∀ j, j < 13 → C[j]? = some (.bool false) :=
    ⟨_, hpb, hpi, by decide +kernel, rfl, fun j hj => by
      rcases (show j = 0 ∨ j = 1 ∨ j = 2 ∨ j = 3 ∨ j = 4 ∨ j = 5 ∨ j = 6 ∨ j = 7 ∨ j = 8 ∨ j = 9 ∨ j = 10 ∨ j = 11 ∨ j = 12 by omega) with e | e | e | e | e | e | e | e | e | e | e | e | e <;> subst e <;> rfl⟩
  clear hpb hpi
  have HC1 := Lib.hid hC1
  have HC2 := Lib.hid hC2
  have HC3 := Lib.hid hC3
  have HC4 := Lib.hid hC4
  have HC5 := Lib.hid hC5
  clear hC1 hC2 hC3 hC4 hC5
  go_enter Try.func6, Try.ntmps6
  go_wp2_with fail
  refine (talive_any w).mono ?_
  rintro e w1 ⟨rfl, hb1⟩
  by_cases hn : n ≤ 60
  case neg =>
    have t1 : decide (60 < n) = true := decide_eq_true (by omega)
    have t2 : decide ((60 : Int) < (n : Int)) = true := decide_eq_true (by omega)
    go_wp2_with fail
    go_ret
    exact ⟨rfl, hb1⟩
  have t1 : decide (60 < n) = false := decide_eq_false (by omega)
  have t2 : decide ((60 : Int) < (n : Int)) = false := decide_eq_false (by omega)
  go_wp2_with fail
  refine (tnew_any 12 w1 (by omega)).mono ?_
  intro e w2 hm
  obtain ⟨b, rfl, h2⟩ := LiveT.make hm hb1 (Nat.le_refl _)
  rw [show (12 : Int).toNat = 12 from rfl] at h2
  have H2 := Lib.hid h2
  clear hm h2 hb1 t1 t2
  go_wp2_with fail
  obtain ⟨wo, rfl⟩ : ∃ wo : World, wo = w := ⟨_, rfl⟩
  go_loopw [20] (fun v wr => ∃ k d L, v = .int .i64 ((k : Nat) : Int) ∧ k ≤ n ∧ LiveT wo.heap.size wo wr b 12 d L) (fun v _ => n - (intOf v).toNat)
  case atStart => exact ⟨0, 0, [], rfl, by omega, H2.out⟩
  case round =>
    obtain ⟨k, d, L, rfl, hk, hL⟩ := hrel
    clear H2
    by_cases hlt : k < n
    · have tk : decide (k < n) = true := decide_eq_true hlt
      obtain ⟨bk, o, kk, l, y, rfl, hbk, ⟨i0, i1⟩, ck0, ck1, ck2⟩ := (HX.out.below hL.out) k hlt
      have hG : LiveG wo.heap.size wo (wr.alloc (.cells #[.int .i64 kk, .int .i32 l, .int .i64 y] 38)) (fun k => False ∨ k = wr.heap.size) b 12 d L := hL.liveG.alloc _
      have hbb : (wr.alloc (.cells #[.int .i64 kk, .int .i32 l, .int .i64 y] 38)).heap[wr.heap.size]? = some (.cells #[.int .i64 kk, .int .i32 l, .int .i64 y] 38 (0, 0)) := blk_new _ _
      have HG := Lib.hid hG
      have HB := Lib.hid hbb
      clear hL hG hbb
      by_cases k0 : kk = 0
      · subst k0
        have HS := Lib.hid (HG.out.set (by omega) l 3 i0 i1)
        go_wp2_with fail
        refine HS.out.mono ?_
        rintro e w4 ⟨rfl, hL4, _⟩
        have HE := Lib.hid hL4.live
        clear hL4 HS HG HB
        go_wp2_with fail
        go_roundw
        case rel => exact ⟨k + 1, _, _, by go_num, by omega, HE.out⟩
        case measure => simp [intOf]; omega
      by_cases k1 : kk = 1
      · subst k1
        clear k0
        generalize hW1 : wr.alloc (.cells #[.int .i64 1, .int .i32 l, .int .i64 y] 38) = W1 at HG HB
        have HW1 := Lib.hid hW1
        have HD : Hid (Calls Try.prog 9 #[.pointer (some ⟨b, 0, none⟩), .int .i32 l] W1.drew fun e w' => e = .returned (.int .i64 (errZ 12 L l)) ∧ LiveG wo.heap.size wo w' (fun k => False ∨ k = wr.heap.size) b 12 (decD 12 d L l) (decL 12 d L l) ∧ SameG (fun k => False ∨ k = wr.heap.size) W1.drew w') := (HG.out.drewN 1).decide (by omega) l i0 i1
        have HOk := Lib.hid HG.out.ok
        by_cases he : errZ 12 L l = 0
        · rw [he] at HD
          obtain ⟨f1, f2, f3⟩ := dec_facts HOk.out he
          rw [f1] at HD
          have F2 := Lib.hid f2
          have F3 := Lib.hid f3
          clear f1 f2 f3 he HG hW1
          generalize decL 12 d L l = L2 at *
          go_upto_region 13 with (fail)
          rw [HW1.out]
          have cb1 : W1.drew.cell? ⟨wr.heap.size, 1, none⟩ = some (.int .i32 l) := by show W1.cell? _ = _; rw [Lib.cell_of_heap HB.out]; rfl
          go_cut [58] (fun v wx => v = .bool false ∧ Hid (LiveT wo.heap.size wo wx b 12 (d + 1) L2))
          case first =>
            generalize hbx : wr.heap.size = bx at *
            have ty : (l != l) = false := by simp
            refine wp_region_any (by kernel_rfl) ?_
            change wpAny _ _ _ _ _ _ _ (World.drew _)
            refine wpAny_take (i := 0) (v := ?_) rfl (by kernel_rfl) (by kernel_rfl) (by kernel_rfl) (fun _ _ _ h => h) (Or.inl ⟨by kernel_rfl, ?_⟩) ?_
            rotate_left 1
            · (intro w; go_simp <;> with_reducible rfl)
            refine wpAny_take (i := 1) (v := ?_) rfl (by kernel_rfl) (by kernel_rfl) (by kernel_rfl) (fun _ _ _ h => h) (Or.inl ⟨by kernel_rfl, ?_⟩) ?_
            rotate_left 1
            · (intro w; go_simp <;> with_reducible rfl)
            refine wpAny_ready (rs := [2]) (by kernel_rfl) (by simp) ?_
            refine AllReady.cons rfl (fun K hK => ?_) ?_
            ·
              go_simp
              refine hK _ _ ?_; clear hK K
              refine wpAny_ready (rs := [3]) (by kernel_rfl) (by simp) ?_
              refine AllReady.cons rfl (fun K hK => ?_) ?_
              ·
                go_simp
                go_wp2_with ((go_at_call 9; refine HD.out.mono ?_; rintro e w4 ⟨rfl, hL4, hs4⟩; have hb4 : w4.heap[bx]? = some (.cells #[.int .i64 1, .int .i32 l, .int .i64 y] 38 (0, 0)) := (hs4 bx (.inr rfl)).trans HB.out; have cb4 : w4.cell? ⟨bx, 1, none⟩ = some (.int .i32 l) := (by rw [Lib.cell_of_heap hb4]; rfl); have HL4 := Lib.hid hL4.live; have H5 := Lib.hid (hL4.live.level (by omega) (varZ l)); rw [F2.out] at H5; have H6 := Lib.hid hL4.live.depth; have H7 := Lib.hid hL4.live.size; have H8 := Lib.hid (hL4.live.at_ ((L2.length : Int) - 1)); rw [F3.out] at H8; have hlen := hL4.ok.len; obtain ⟨D, hD⟩ : ∃ D : Int, ((d + 1 : Nat) : Int) = D := ⟨_, rfl⟩; rw [hD] at H5 H6; obtain ⟨Z, hZ⟩ : ∃ Z : Int, (L2.length : Int) = Z := ⟨_, rfl⟩; rw [hZ] at H7 H8; have z0 : 0 ≤ Z := (by omega); have z1 : Z ≤ 12 := (by omega); have tz : (D != D) = false := (by simp); have hw : IntKind.i64.wrap (Z - 1) = Z - 1 := (by rw [IntKind.wrap_i64]; omega); rw [← hw] at H8; clear hs4 hL4 hb4 hD hZ hlen hw))
                first | (refine hK _ _ ?_; clear hK K) | skip
                refine wpAny_take (i := 4) (v := ?_) rfl (by kernel_rfl) (by kernel_rfl) (by kernel_rfl) (fun _ _ _ h => h) (Or.inl ⟨by kernel_rfl, ?_⟩) ?_
                rotate_left 1
                · (intro w; go_simp <;> with_reducible rfl)
                refine wpAny_take (i := 5) (v := ?_) rfl (by kernel_rfl) (by kernel_rfl) (by kernel_rfl) (fun _ _ _ h => h) (Or.inl ⟨by kernel_rfl, ?_⟩) ?_
                rotate_left 1
                · (intro w; go_simp <;> with_reducible rfl)
                refine wpAny_take (i := 6) (v := ?_) rfl (by kernel_rfl) (by kernel_rfl) (by kernel_rfl) (fun _ _ _ h => h) (Or.inl ⟨by kernel_rfl, ?_⟩) ?_
                rotate_left 1
                · (intro w; go_simp <;> with_reducible rfl)
                refine wpAny_take (i := 7) (v := ?_) rfl (by kernel_rfl) (by kernel_rfl) (by kernel_rfl) (fun _ _ _ h => h) (Or.inl ⟨by kernel_rfl, ?_⟩) ?_
                rotate_left 1
                · (intro w; go_simp <;> with_reducible rfl)
                refine wpAny_take (i := 11) (v := ?_) rfl (by kernel_rfl) (by kernel_rfl) (by kernel_rfl) (fun _ _ _ h => h) (Or.inl ⟨by kernel_rfl, ?_⟩) ?_
                rotate_left 1
                · (intro w; go_simp <;> with_reducible rfl)
                refine wpAny_ready (rs := [8]) (by kernel_rfl) (by simp) ?_
                refine AllReady.cons rfl (fun K hK => ?_) ?_
                ·
                  go_simp
                  refine hK _ _ ?_; clear hK K
                  refine wpAny_ready (rs := [9]) (by kernel_rfl) (by simp) ?_
                  refine AllReady.cons rfl (fun K hK => ?_) ?_
                  ·
                    go_simp
                    go_wp2_with ((go_at_call 26; refine (rvar_any l _ i0 i1).mono ?_; rintro e w' ⟨rfl, rfl⟩))
                    first | (refine hK _ _ ?_; clear hK K) | skip
                    refine wpAny_ready (rs := [10]) (by kernel_rfl) (by simp) ?_
                    refine AllReady.cons rfl (fun K hK => ?_) ?_
                    ·
                      go_simp
                      go_wp2_with ((go_at_call 21; refine H5.out.mono ?_; rintro e w' ⟨rfl, rfl⟩))
                      first | (refine hK _ _ ?_; clear hK K) | skip
                      refine wpAny_ready (rs := [12]) (by kernel_rfl) (by simp) ?_
                      refine AllReady.cons rfl (fun K hK => ?_) ?_
                      ·
                        go_simp
                        go_wp2_with ((go_at_call 12; refine H6.out.mono ?_; rintro e w' ⟨rfl, rfl⟩))
                        first | (refine hK _ _ ?_; clear hK K) | skip
                        refine wpAny_take (i := 13) (v := ?_) rfl (by kernel_rfl) (by kernel_rfl) (by kernel_rfl) (fun _ _ _ h => h) (Or.inl ⟨by kernel_rfl, ?_⟩) ?_
                        rotate_left 1
                        · (intro w; go_simp <;> with_reducible rfl)
                        refine wpAny_take (i := 14) (v := ?_) rfl (by kernel_rfl) (by kernel_rfl) (by kernel_rfl) (fun _ _ _ h => h) (Or.inl ⟨by kernel_rfl, ?_⟩) ?_
                        rotate_left 1
                        · (intro w; go_simp <;> with_reducible rfl)
                        refine wpAny_take (i := 15) (v := ?_) rfl (by kernel_rfl) (by kernel_rfl) (by kernel_rfl) (fun _ _ _ h => h) (Or.inl ⟨by kernel_rfl, ?_⟩) ?_
                        rotate_left 1
                        · (intro w; go_simp <;> with_reducible rfl)
                        refine wpAny_take (i := 16) (v := ?_) rfl (by kernel_rfl) (by kernel_rfl) (by kernel_rfl) (fun _ _ _ h => h) (Or.inl ⟨by kernel_rfl, ?_⟩) ?_
                        rotate_left 1
                        · (intro w; go_simp <;> with_reducible rfl)
                        refine wpAny_take (i := 20) (v := ?_) rfl (by kernel_rfl) (by kernel_rfl) (by kernel_rfl) (fun _ _ _ h => h) (Or.inl ⟨by kernel_rfl, ?_⟩) ?_
                        rotate_left 1
                        · (intro w; go_simp <;> with_reducible rfl)
                        refine wpAny_ready (rs := [17, 21]) (by kernel_rfl) (by simp) ?_
                        refine AllReady.cons rfl (fun K hK => ?_) ?_
                        ·
                          go_simp
                          go_wp2_with ((go_at_call 19; refine H7.out.mono ?_; rintro e w' ⟨rfl, rfl⟩))
                          first | (refine hK _ _ ?_; clear hK K) | skip
                          refine wpAny_take (i := 18) (v := ?_) rfl (by kernel_rfl) (by kernel_rfl) (by kernel_rfl) (fun _ _ _ h => h) (Or.inl ⟨by kernel_rfl, ?_⟩) ?_
                          rotate_left 1
                          · (intro w; go_simp <;> with_reducible rfl)
                          refine wpAny_ready (rs := [19, 21]) (by kernel_rfl) (by simp) ?_
                          refine AllReady.cons rfl (fun K hK => ?_) ?_
                          ·
                            go_simp
                            go_wp2_with ((go_at_call 25; refine H8.out.mono ?_; rintro e w' ⟨rfl, rfl⟩))
                            first | (refine hK _ _ ?_; clear hK K) | skip
                            refine wpAny_ready (rs := [21]) (by kernel_rfl) (by simp) ?_
                            refine AllReady.cons rfl (fun K hK => ?_) ?_
                            ·
                              go_simp
                              refine hK _ _ ?_; clear hK K
                              refine wpAny_take (i := 22) (v := ?_) rfl (by kernel_rfl) (by kernel_rfl) (by kernel_rfl) (fun _ _ _ h => h) (Or.inl ⟨by kernel_rfl, ?_⟩) ?_
                              rotate_left 1
                              · (intro w; go_simp <;> with_reducible rfl)
                              refine wpAny_take (i := 23) (v := ?_) rfl (by kernel_rfl) (by kernel_rfl) (by kernel_rfl) (fun _ _ _ h => h) (Or.inl ⟨by kernel_rfl, ?_⟩) ?_
                              rotate_left 1
                              · (intro w; go_simp <;> with_reducible rfl)
                              refine wpAny_take (i := 24) (v := ?_) rfl (by kernel_rfl) (by kernel_rfl) (by kernel_rfl) (fun _ _ _ h => h) (Or.inl ⟨by kernel_rfl, ?_⟩) ?_
                              rotate_left 1
                              · (intro w; go_simp <;> with_reducible rfl)
                              refine wpAny_done (by kernel_rfl) ?_ _
                              go_wp2_with fail; go_meet; exact ⟨rfl, HL4.out⟩
                            exact AllReady.nil
                          refine AllReady.cons rfl (fun K hK => ?_) ?_
                          ·
                            go_simp
                            refine hK _ _ ?_; clear hK K
                            refine wpAny_ready (rs := [19]) (by kernel_rfl) (by simp) ?_
                            refine AllReady.cons rfl (fun K hK => ?_) ?_
                            ·
                              go_simp
                              go_wp2_with ((go_at_call 25; refine H8.out.mono ?_; rintro e w' ⟨rfl, rfl⟩))
                              first | (refine hK _ _ ?_; clear hK K) | skip
                              refine wpAny_take (i := 22) (v := ?_) rfl (by kernel_rfl) (by kernel_rfl) (by kernel_rfl) (fun _ _ _ h => h) (Or.inl ⟨by kernel_rfl, ?_⟩) ?_
                              rotate_left 1
                              · (intro w; go_simp <;> with_reducible rfl)
                              refine wpAny_take (i := 23) (v := ?_) rfl (by kernel_rfl) (by kernel_rfl) (by kernel_rfl) (fun _ _ _ h => h) (Or.inl ⟨by kernel_rfl, ?_⟩) ?_
                              rotate_left 1
                              · (intro w; go_simp <;> with_reducible rfl)
                              refine wpAny_take (i := 24) (v := ?_) rfl (by kernel_rfl) (by kernel_rfl) (by kernel_rfl) (fun _ _ _ h => h) (Or.inl ⟨by kernel_rfl, ?_⟩) ?_
                              rotate_left 1
                              · (intro w; go_simp <;> with_reducible rfl)
                              refine wpAny_done (by kernel_rfl) ?_ _
                              go_wp2_with fail; go_meet; exact ⟨rfl, HL4.out⟩
                            exact AllReady.nil
                          exact AllReady.nil
                        refine AllReady.cons rfl (fun K hK => ?_) ?_
                        ·
                          go_simp
                          refine hK _ _ ?_; clear hK K
                          refine wpAny_ready (rs := [17]) (by kernel_rfl) (by simp) ?_
                          refine AllReady.cons rfl (fun K hK => ?_) ?_
                          ·
                            go_simp
                            go_wp2_with ((go_at_call 19; refine H7.out.mono ?_; rintro e w' ⟨rfl, rfl⟩))
                            first | (refine hK _ _ ?_; clear hK K) | skip
                            refine wpAny_take (i := 18) (v := ?_) rfl (by kernel_rfl) (by kernel_rfl) (by kernel_rfl) (fun _ _ _ h => h) (Or.inl ⟨by kernel_rfl, ?_⟩) ?_
                            rotate_left 1
                            · (intro w; go_simp <;> with_reducible rfl)
                            refine wpAny_ready (rs := [19]) (by kernel_rfl) (by simp) ?_
                            refine AllReady.cons rfl (fun K hK => ?_) ?_
                            ·
                              go_simp
                              go_wp2_with ((go_at_call 25; refine H8.out.mono ?_; rintro e w' ⟨rfl, rfl⟩))
                              first | (refine hK _ _ ?_; clear hK K) | skip
                              refine wpAny_take (i := 22) (v := ?_) rfl (by kernel_rfl) (by kernel_rfl) (by kernel_rfl) (fun _ _ _ h => h) (Or.inl ⟨by kernel_rfl, ?_⟩) ?_
                              rotate_left 1
                              · (intro w; go_simp <;> with_reducible rfl)
                              refine wpAny_take (i := 23) (v := ?_) rfl (by kernel_rfl) (by kernel_rfl) (by kernel_rfl) (fun _ _ _ h => h) (Or.inl ⟨by kernel_rfl, ?_⟩) ?_
                              rotate_left 1
                              · (intro w; go_simp <;> with_reducible rfl)
                              refine wpAny_take (i := 24) (v := ?_) rfl (by kernel_rfl) (by kernel_rfl) (by kernel_rfl) (fun _ _ _ h => h) (Or.inl ⟨by kernel_rfl, ?_⟩) ?_
                              rotate_left 1
                              · (intro w; go_simp <;> with_reducible rfl)
                              refine wpAny_done (by kernel_rfl) ?_ _
                              go_wp2_with fail; go_meet; exact ⟨rfl, HL4.out⟩
                            exact AllReady.nil
                          exact AllReady.nil
                        exact AllReady.nil
                      exact AllReady.nil
                    exact AllReady.nil
                  exact AllReady.nil
                exact AllReady.nil
              exact AllReady.nil
            exact AllReady.nil
          case rest =>
            obtain ⟨rfl, HE⟩ := hcut
            clear HD HB cb1 HW1 F2 F3
            go_wp2_with fail
            go_roundw
            case rel => exact ⟨k + 1, _, _, by go_num, by omega, HE.out⟩
            case measure => simp [intOf]; omega
        · obtain ⟨f1, f2⟩ := dec_no (n := 12) (d := d) he
          rw [f1, f2] at HD
          have te : (errZ 12 L l == 0) = false := by rw [beq_eq_false_iff_ne]; exact he
          clear f1 f2 he HG hW1
          generalize errZ 12 L l = er at *
          go_upto_region 13 with (fail)
          rw [HW1.out]
          have cb1 : W1.drew.cell? ⟨wr.heap.size, 1, none⟩ = some (.int .i32 l) := by show W1.cell? _ = _; rw [Lib.cell_of_heap HB.out]; rfl
          go_cut [58] (fun v wx => v = .bool false ∧ Hid (LiveT wo.heap.size wo wx b 12 d L))
          case first =>
            generalize hbx : wr.heap.size = bx at *
            refine wp_region_any (by kernel_rfl) ?_
            change wpAny _ _ _ _ _ _ _ (World.drew _)
            refine wpAny_take (i := 0) (v := ?_) rfl (by kernel_rfl) (by kernel_rfl) (by kernel_rfl) (fun _ _ _ h => h) (Or.inl ⟨by kernel_rfl, ?_⟩) ?_
            rotate_left 1
            · (intro w; go_simp <;> with_reducible rfl)
            refine wpAny_take (i := 1) (v := ?_) rfl (by kernel_rfl) (by kernel_rfl) (by kernel_rfl) (fun _ _ _ h => h) (Or.inl ⟨by kernel_rfl, ?_⟩) ?_
            rotate_left 1
            · (intro w; go_simp <;> with_reducible rfl)
            refine wpAny_ready (rs := [2]) (by kernel_rfl) (by simp) ?_
            refine AllReady.cons rfl (fun K hK => ?_) ?_
            ·
              go_simp
              refine hK _ _ ?_; clear hK K
              refine wpAny_ready (rs := [3]) (by kernel_rfl) (by simp) ?_
              refine AllReady.cons rfl (fun K hK => ?_) ?_
              ·
                go_simp
                go_wp2_with ((go_at_call 9; refine HD.out.mono ?_; rintro e w4 ⟨rfl, hL4, hs4⟩; have HL4 := Lib.hid hL4.live; clear hs4 hL4))
                first | (refine hK _ _ ?_; clear hK K) | skip
                refine wpAny_take (i := 4) (v := ?_) rfl (by kernel_rfl) (by kernel_rfl) (by kernel_rfl) (fun _ _ _ h => h) (Or.inl ⟨by kernel_rfl, ?_⟩) ?_
                rotate_left 1
                · (intro w; go_simp <;> with_reducible rfl)
                refine wpAny_take (i := 5) (v := ?_) rfl (by kernel_rfl) (by kernel_rfl) (by kernel_rfl) (fun _ _ _ h => h) (Or.inl ⟨by kernel_rfl, ?_⟩) ?_
                rotate_left 1
                · (intro w; go_simp <;> with_reducible rfl)
                refine wpAny_take (i := 6) (v := undef) rfl (by kernel_rfl) (by kernel_rfl) (by kernel_rfl) (fun _ _ _ h => h) (Or.inr ⟨by kernel_rfl, rfl⟩) ?_
                go_simp
                refine wpAny_take (i := 7) (v := undef) rfl (by kernel_rfl) (by kernel_rfl) (by kernel_rfl) (fun _ _ _ h => h) (Or.inr ⟨by kernel_rfl, rfl⟩) ?_
                go_simp
                refine wpAny_take (i := 8) (v := undef) rfl (by kernel_rfl) (by kernel_rfl) (by kernel_rfl) (fun _ _ _ h => h) (Or.inr ⟨by kernel_rfl, rfl⟩) ?_
                go_simp
                refine wpAny_take (i := 9) (v := undef) rfl (by kernel_rfl) (by kernel_rfl) (by kernel_rfl) (fun _ _ _ h => h) (Or.inr ⟨by kernel_rfl, rfl⟩) ?_
                go_simp
                refine wpAny_take (i := 10) (v := undef) rfl (by kernel_rfl) (by kernel_rfl) (by kernel_rfl) (fun _ _ _ h => h) (Or.inr ⟨by kernel_rfl, rfl⟩) ?_
                go_simp
                refine wpAny_take (i := 11) (v := undef) rfl (by kernel_rfl) (by kernel_rfl) (by kernel_rfl) (fun _ _ _ h => h) (Or.inr ⟨by kernel_rfl, rfl⟩) ?_
                go_simp
                refine wpAny_take (i := 12) (v := undef) rfl (by kernel_rfl) (by kernel_rfl) (by kernel_rfl) (fun _ _ _ h => h) (Or.inr ⟨by kernel_rfl, rfl⟩) ?_
                go_simp
                refine wpAny_take (i := 13) (v := undef) rfl (by kernel_rfl) (by kernel_rfl) (by kernel_rfl) (fun _ _ _ h => h) (Or.inr ⟨by kernel_rfl, rfl⟩) ?_
                go_simp
                refine wpAny_take (i := 14) (v := undef) rfl (by kernel_rfl) (by kernel_rfl) (by kernel_rfl) (fun _ _ _ h => h) (Or.inr ⟨by kernel_rfl, rfl⟩) ?_
                go_simp
                refine wpAny_take (i := 15) (v := undef) rfl (by kernel_rfl) (by kernel_rfl) (by kernel_rfl) (fun _ _ _ h => h) (Or.inr ⟨by kernel_rfl, rfl⟩) ?_
                go_simp
                refine wpAny_take (i := 16) (v := undef) rfl (by kernel_rfl) (by kernel_rfl) (by kernel_rfl) (fun _ _ _ h => h) (Or.inr ⟨by kernel_rfl, rfl⟩) ?_
                go_simp
                refine wpAny_take (i := 17) (v := undef) rfl (by kernel_rfl) (by kernel_rfl) (by kernel_rfl) (fun _ _ _ h => h) (Or.inr ⟨by kernel_rfl, rfl⟩) ?_
                go_simp
                refine wpAny_take (i := 18) (v := undef) rfl (by kernel_rfl) (by kernel_rfl) (by kernel_rfl) (fun _ _ _ h => h) (Or.inr ⟨by kernel_rfl, rfl⟩) ?_
                go_simp
                refine wpAny_take (i := 19) (v := undef) rfl (by kernel_rfl) (by kernel_rfl) (by kernel_rfl) (fun _ _ _ h => h) (Or.inr ⟨by kernel_rfl, rfl⟩) ?_
                go_simp
                refine wpAny_take (i := 20) (v := undef) rfl (by kernel_rfl) (by kernel_rfl) (by kernel_rfl) (fun _ _ _ h => h) (Or.inr ⟨by kernel_rfl, rfl⟩) ?_
                go_simp
                refine wpAny_take (i := 21) (v := undef) rfl (by kernel_rfl) (by kernel_rfl) (by kernel_rfl) (fun _ _ _ h => h) (Or.inr ⟨by kernel_rfl, rfl⟩) ?_
                go_simp
                refine wpAny_take (i := 22) (v := undef) rfl (by kernel_rfl) (by kernel_rfl) (by kernel_rfl) (fun _ _ _ h => h) (Or.inr ⟨by kernel_rfl, rfl⟩) ?_
                go_simp
                refine wpAny_take (i := 23) (v := undef) rfl (by kernel_rfl) (by kernel_rfl) (by kernel_rfl) (fun _ _ _ h => h) (Or.inr ⟨by kernel_rfl, rfl⟩) ?_
                go_simp
                refine wpAny_take (i := 24) (v := ?_) rfl (by kernel_rfl) (by kernel_rfl) (by kernel_rfl) (fun _ _ _ h => h) (Or.inl ⟨by kernel_rfl, ?_⟩) ?_
                rotate_left 1
                · (intro w; go_simp <;> with_reducible rfl)
                refine wpAny_done (by kernel_rfl) ?_ _
                go_wp2_with fail; go_meet; exact ⟨rfl, HL4.out⟩
              exact AllReady.nil
            exact AllReady.nil
          case rest =>
            obtain ⟨rfl, HE⟩ := hcut
            clear HD HB cb1 HW1
            go_wp2_with fail
            go_roundw
            case rel => exact ⟨k + 1, _, _, by go_num, by omega, HE.out⟩
            case measure => simp [intOf]; omega
      by_cases k2 : kk = 2
      · subst k2
        clear k0 k1
        have HS := Lib.hid (HG.out.back (by omega) y)
        go_wp2_with fail
        refine HS.out.mono ?_
        rintro e w4 ⟨A4, m4, c4, rfl, _, _, _, hL4, _⟩
        have HE := Lib.hid hL4.live
        clear hL4 HS HG HB
        go_wp2_with fail
        go_roundw
        case rel => exact ⟨k + 1, _, _, by go_num, by omega, HE.out⟩
        case measure => simp [intOf]; omega
      have q0 : (kk == 0) = false := by rw [beq_eq_false_iff_ne]; exact k0
      have q1 : (kk == 1) = false := by rw [beq_eq_false_iff_ne]; exact k1
      have q2 : (kk == 2) = false := by rw [beq_eq_false_iff_ne]; exact k2
      have HE := Lib.hid HG.out.live
      clear HG HB k0 k1 k2
      go_wp2_with fail
      go_roundw
      case rel => exact ⟨k + 1, _, _, by go_num, by omega, HE.out⟩
      case measure => simp [intOf]; omega
    · have tk : decide (k < n) = false := decide_eq_false hlt
      have HL := Lib.hid hL
      have HOk := Lib.hid hL.ok
      clear hL HX
      go_upto_region 19 with (fail)
      refine wp_region_zeros 55 66 7 C rfl rfl rfl rfl rfl rfl rfl rfl rfl HC1.out HC2.out HC3.out rfl rfl ?_
      have HW : Hid (LiveG wo.heap.size wo (wr.alloc (.cells C 55)) (fun k => False ∨ k = wr.heap.size) b 12 d L) := HL.out.liveG.alloc _
      have HRW : Hid (RowV 55 13 (wr.alloc (.cells C 55)) wr.heap.size 1 1 (fun j => .bool (seenB L 0 j))) := RowV.made (by omega) (by rw [HC4.out]) (fun j hj => HC5.out j (by omega))
      generalize wr.alloc (.cells C 55) = W1 at HW HRW ⊢
      generalize wr.heap.size = bx at *
      clear HC1 HC2 HC3 HC4 HC5 HL
      go_wp2_with fail
      go_loopw [6, 8] (fun s v wr => ∃ i lv f, v = .int .i64 ((i : Nat) : Int) ∧ s = .int .i64 ((lv : Nat) : Int) ∧ i ≤ L.length ∧ (∀ h : i < L.length, lv ≤ L[i].lv) ∧ LiveG wo.heap.size wo wr (fun k => False ∨ k = bx) b 12 d L ∧ RowV 55 13 wr bx 1 1 f ∧ ∀ j, j < 13 → f j = .bool (seenB L i j)) (fun _ v _ => L.length - (intOf v).toNat)
      case atStart => exact ⟨0, 0, _, rfl, rfl, by omega, fun h => by omega, HW.out, HRW.out, fun j _ => rfl⟩
      case round =>
        obtain ⟨i, lv, f, rfl, rfl, hi, hlv, hL, hR, hf⟩ := hrel
        have HZ := Lib.hid hL.live.size
        have hlen := HOk.out.len
        by_cases hlt : i < L.length
        · have ti : decide (i < L.length) = true := decide_eq_true hlt
          have ti2 : decide ((i : Int) < (L.length : Int)) = true := decide_eq_true (by omega)
          obtain ⟨q, hq, q1, q2, fa, fl, fd, fv, fw, x0, x1, x2, x3⟩ := at_facts HOk.out hlt
          have hle := hlv hlt
          have hsn := seen_no HOk.out hlt hq
          have HA := Lib.hid (hL.live.at_ (i : Int))
          rw [fa] at HA
          have HV := Lib.hid (fun W => rvar_any L[i].l W x0 x1)
          rw [hq] at HV
          have HLV := Lib.hid (hL.live.level (by omega) (q : Int))
          rw [fl] at HLV
          have HD := Lib.hid hL.live.depth
          have HV1 := Lib.hid (hL.live.value (by omega) L[i].l x0 x1)
          rw [fv] at HV1
          have HV2 := Lib.hid (hL.live.value (by omega) (-L[i].l) x2 x3)
          rw [fw] at HV2
          have cq := hR.cell (show q < 1 * 13 by omega)
          rw [hf q (by omega), hsn] at cq
          have fq := hR.free q
          have HE : Hid (LiveG wo.heap.size wo (wr.setCell ⟨bx, q, none⟩ (.bool true)) (fun k => False ∨ k = bx) b 12 d L ∧ RowV 55 13 (wr.setCell ⟨bx, q, none⟩ (.bool true)) bx 1 1 (updV f q (.bool true))) := ⟨hL.set_ (.inr rfl) _, hR.set (by omega) _⟩
          have HLV2 := Lib.hid (HE.out.1.live.level (by omega) (q : Int))
          rw [fl] at HLV2
          have HF : Hid (∀ j, j < 13 → updV f q (.bool true) j = .bool (seenB L (i + 1) j)) := fun j hj => by
            rw [seen_step hlt hq]
            unfold updV
            split
            · rfl
            · exact hf j hj
          have HN : Hid (∀ h : i + 1 < L.length, L[i].lv ≤ L[i + 1].lv) := fun h => levels_rise HOk.out (by omega) h
          have t1 : decide ((q : Int) < 1) = false := decide_eq_false (by omega)
          have t1' : decide (q < 1) = false := decide_eq_false (by omega)
          have t2 : decide ((12 : Int) < (q : Int)) = false := decide_eq_false (by omega)
          have t2' : decide (12 < q) = false := decide_eq_false (by omega)
          have hw : IntKind.i32.wrap (-L[i].l) = -L[i].l := by rw [IntKind.wrap_i32]; omega
          have HI := Lib.hid hlt
          clear hL hR hf hlv hsn fa fl fv fw hq HW HRW
          generalize hlvi : L[i].lv = y at *
          generalize L[i].l = x at *
          have t3 : decide ((y : Int) < (lv : Int)) = false := decide_eq_false (by omega)
          have t3' : decide (y < lv) = false := decide_eq_false (by omega)
          have t4 : decide ((d : Int) < (y : Int)) = false := decide_eq_false (by omega)
          have t4' : decide (d < y) = false := decide_eq_false (by omega)
          go_wp2_with fail
          refine HZ.out.mono ?_
          rintro e w' ⟨rfl, rfl⟩
          go_wp2_with fail
          refine HA.out.mono ?_
          rintro e w' ⟨rfl, rfl⟩
          go_wp2_with fail
          refine (HV.out _).mono ?_
          rintro e w' ⟨rfl, rfl⟩
          go_wp2_with fail
          refine HLV.out.mono ?_
          rintro e w' ⟨rfl, rfl⟩
          go_wp2_with fail
          refine HLV.out.mono ?_
          rintro e w' ⟨rfl, rfl⟩
          go_wp2_with fail
          refine HD.out.mono ?_
          rintro e w' ⟨rfl, rfl⟩
          go_wp2_with fail
          refine HV1.out.mono ?_
          rintro e w' ⟨rfl, rfl⟩
          go_wp2_with fail
          refine HV2.out.mono ?_
          rintro e w' ⟨rfl, rfl⟩
          go_wp2_with fail
          refine HLV2.out.mono ?_
          rintro e w' ⟨rfl, rfl⟩
          clear HZ HA HV HLV HD HV1 HV2 HLV2
          go_wp2_with fail
          go_roundw
          case rel => exact ⟨i + 1, y, _, by go_num, rfl, by have := HI.out; omega, HN.out, HE.out.1, HE.out.2, HF.out⟩
          case measure => have := HI.out; simp [intOf]; omega
        · have ti : decide (i < L.length) = false := decide_eq_false hlt
          have ti2 : decide ((i : Int) < (L.length : Int)) = false := decide_eq_false (by omega)
          obtain rfl : i = L.length := by omega
          have HL := Lib.hid hL
          have HR := Lib.hid hR
          have HF := Lib.hid hf
          clear hL hR hf HW HRW hlv
          go_wp2_with fail
          refine HZ.out.mono ?_
          rintro e w' ⟨rfl, rfl⟩
          clear HZ
          go_wp2_with fail
          obtain ⟨wq, rfl⟩ : ∃ wq : World, wq = wr := ⟨_, rfl⟩
          go_loopw [11] (fun v wr => ∃ m, v = .int .i64 ((m : Nat) : Int) ∧ 1 ≤ m ∧ m ≤ 13 ∧ LiveG wo.heap.size wo wr (fun k => False ∨ k = bx) b 12 d L ∧ RowV 55 13 wr bx 1 1 f) (fun v _ => 13 - (intOf v).toNat)
          case atStart => exact ⟨1, rfl, by omega, by omega, HL.out, HR.out⟩
          case round =>
            obtain ⟨m, rfl, m1, m2, hL, hR⟩ := hrel
            clear HL HR
            by_cases hm : m ≤ 12
            · have tm : decide (m ≤ 12) = true := decide_eq_true hm
              have tm2 : decide ((m : Int) ≤ 12) = true := decide_eq_true (by omega)
              have cm := hR.cell (show m < 1 * 13 by omega)
              rw [HF.out m (by omega)] at cm
              have hw : IntKind.i32.wrap (m : Int) = (m : Int) := by rw [IntKind.wrap_i32]; omega
              cases hs : seenB L L.length m with
              | true =>
                rw [hs] at cm
                have HL := Lib.hid hL
                have HR := Lib.hid hR
                clear hL hR hs
                go_wp2_with fail
                go_roundw
                case rel => exact ⟨m + 1, by go_num, by omega, by omega, HL.out, HR.out⟩
                case measure => simp [intOf]; omega
              | false =>
                rw [hs] at cm
                have HV := Lib.hid (hL.live.value (by omega) (m : Int) (by omega) (by omega))
                rw [seen_all HOk.out hs m1 (by omega)] at HV
                have HL := Lib.hid hL
                have HR := Lib.hid hR
                clear hL hR hs
                go_wp2_with fail
                refine HV.out.mono ?_
                rintro e w' ⟨rfl, rfl⟩
                clear HV
                go_wp2_with fail
                go_roundw
                case rel => exact ⟨m + 1, by go_num, by omega, by omega, HL.out, HR.out⟩
                case measure => simp [intOf]; omega
            · have tm : decide (m ≤ 12) = false := decide_eq_false hm
              have tm2 : decide ((m : Int) ≤ 12) = false := decide_eq_false (by omega)
              have HB := Lib.hid hL.out
              clear hL hR
              go_wp2_with fail
              go_ret
              exact ⟨rfl, HB.out⟩

set_option maxHeartbeats 800000 in
set_option maxRecDepth 100000 in
theorem lifted (os : Os) (started : os.Started) (H : Type) (enc : TypeId × Value → H) :
    ReturnsInHanded {} Try.checked os 6 .any (Rows.trailLevelsSpec.pre6 enc Try.prog Try.f6 Rows.trailLevelsRow.domain false) (Rows.trailLevelsSpec.post enc Try.prog Try.f6 false true false false) := by
  refine returnsInHanded_of_change (C := Try.checked) own_knob started (by kernel_rfl) Try.func6
    (ChangeSpec.witness6 (enc := enc) (C := Try.checked) false ⟨#[], #[.slice none 0 0], []⟩ 8 (by kernel_rfl) (by kernel_rfl) (by kernel_rfl) (by kernel_rfl)) ?_
  intro W base args ds gs before hval0 hW _ _
  have hval : ∀ (j : Nat) t v, Try.f6.params[j]? = some t → args[j]? = some v → Value.okWide Try.prog W .any base t v := hval0
  have hW' := hW
  obtain ⟨p, q, hA0, hV, rfl, _, _⟩ := hW
  have hA : DataW.TrodAll enc Try.prog W 0 (fun _ => true) true Try.f6.params.toList args.toList ds p := hA0
  rw [Try.params6] at hA hval
  obtain ⟨v0, d0, rfl, rfl, h0⟩ := trodAll_one hA
  obtain ⟨rfl, rfl⟩ := trodVars_none hV
  obtain ⟨A0, n0, c0, rfl, hR0, _⟩ := open_acts (hval 0 33 v0 rfl rfl) h0
  clear hA0 hval0
  simp only [List.append_nil] at hW'
  have hlt0 : ∀ y ∈ p, y.block < W.heap.size := fun y hy => by simpa using hW'.lt y (by simp [hy])
  refine (walk A0 n0 c0 W hR0).mono fun e W' ⟨he, hB⟩ => ?_
  subst he
  exact ⟨_, rfl, _, _, _, [], _, [], hW', trodAll_mk1 (shut_bool Try.underlying4 true), trodAll_mk1 (Below.trod laid_out (by kernel_rfl) (of_decide_eq_true (by kernel_rfl)) h0 hB hlt0), rfl, hB.frame _, fun h => by cases h⟩

theorem proved : Rows.TrailLevelsSaid :=
  OpenClaim.holds_of_wide 6 Try.f6 rfl rfl rfl rfl rfl rfl rfl ⟨rfl, rfl, rfl, rfl, rfl⟩ rfl rfl rfl rfl rfl (by kernel_rfl) Try.func6 (by kernel_rfl)
    (of_decide_eq_true (by kernel_rfl)) (by unfold Func.isWrapper; first | (rw [if_pos (by decide +kernel)]; kernel_rfl) | (rw [if_neg (by decide +kernel)]; exact ⟨rfl, rfl⟩))
    (fun os started H enc _ => lifted os started H enc)
end Go.Proofs.Ytbllamlaabmbaaa.TLevels
namespace Go.Proofs.Ytbllamlaabmbaaa
theorem trailLevels_holds : Rows.TrailLevelsSaid := TLevels.proved
#print axioms trailLevels_holds
end Go.Proofs.Ytbllamlaabmbaaa
