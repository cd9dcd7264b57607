/- The contract of an engine's notFalse: the first two literals that aren't false. -/
import Derived.Test.YtkckodpfhlpkgaaGreatEAno
namespace Go.Proofs.YtkckodpfhlpkgaaGreat
open Go.RowKit LitM TrailM EngM

theorem nf_step (L : List Ent) (ls : List Int) {i : Nat} (hi : i < ls.length) : nf L (ls.take (i + 1)) = if valZ L (ls.getD i 0) = -1 then nf L (ls.take i) else nf L (ls.take i) ++ [ls.getD i 0] := by
  unfold nf
  rw [List.take_add_one, List.filter_append, List.getElem?_eq_getElem hi, List.getD, List.getElem?_eq_getElem hi]
  show _ ++ List.filter _ [ls[i]] = _
  by_cases e : valZ L ls[i] = -1
  · rw [if_pos (by simpa using e)]; simp [e]
  · rw [if_neg (by simpa using e)]; simp [e]
theorem nf_more (L : List Ent) (ls : List Int) (i : Nat) : ∃ r, nf L ls = nf L (ls.take i) ++ r := by
  refine ⟨nf L (ls.drop i), ?_⟩
  unfold nf
  rw [← List.filter_append, List.take_append_drop]
set_option maxHeartbeats 6400000 in
set_option maxRecDepth 100000 in
theorem notFalse_any {w : World} {b : Nat} {q : Pm} {S : Eng} {d : Nat} (h : E6 w b q S d) {id : Nat} (hi : id < S.cs.length) (hls : ∀ x ∈ (clA S.cs id).ls, one x = true ∧ varZ x ≤ S.n) (hll : (clA S.cs id).ls.length ≤ 90000) (hn : S.n ≤ 90000) :
    Calls Tryz.prog 86 #[.pointer (some ⟨b, 0, none⟩), .slice (q.Lc id).1 (clA S.cs id).ls.length (q.Lc id).2] w fun e w' => e = .returned (.tuple #[.int .i32 ((nf S.L (clA S.cs id).ls).getD 0 0), .int .i32 ((nf S.L (clA S.cs id).ls).getD 1 0)]) ∧ w = w' := by
  have CL : Hid (∀ j, j < (clA S.cs id).ls.length → ∃ gl, (q.Lc id).1 = some ⟨gl, 0, none⟩ ∧ w.cell? ⟨gl, j, none⟩ = some (.int .i32 ((clA S.cs id).ls.getD j 0)) ∧ (clA S.cs id).ls.length ≤ (q.Lc id).2 ∧ (q.Lc id).2 ≤ 9223372036854775807) := fun j hj => h.lits hi hj
  have CV : Hid (∀ (x : Int), -2147483648 ≤ x → x ≤ 2147483647 → Calls Tryz.prog 36 #[.pointer (some ⟨q.bt, 0, none⟩), .int .i32 x] w fun e w' => e = .returned (.int .i64 (valZ S.L x)) ∧ w = w') := fun x h0 h1 => by
    obtain ⟨F, gm, cm, ao, co, az, cz, hQ, hO, _⟩ := h.trail
    exact tvalue_nat w hQ hO.pre (by omega) x h0 h1
  have h0 := h.h0
  clear h
  generalize (q.Lc id).1 = Al at *
  generalize (q.Lc id).2 = cl at *
  generalize (clA S.cs id).ls = ls at *
  obtain ⟨R, hR⟩ : ∃ R, R = nf S.L ls := ⟨_, rfl⟩
  rw [← hR]
  have HR := Lib.hid hR
  clear hR
  obtain ⟨r0, h0'⟩ : ∃ r0, r0 = R.getD 0 0 := ⟨_, rfl⟩
  obtain ⟨r1, h1'⟩ : ∃ r1, r1 = R.getD 1 0 := ⟨_, rfl⟩
  rw [← h0', ← h1']
  have HR0 := Lib.hid h0'
  have HR1 := Lib.hid h1'
  clear h0' h1'
  go_enter Tryz.func86, Tryz.ntmps86
  go_wp2_with fail
  obtain ⟨wo, rfl⟩ : ∃ wo : World, wo = w := ⟨_, rfl⟩
  go_loopw [4, 10] (fun f v wr => ∃ i : Nat, v = .int .i64 (i : Int) ∧ i ≤ ls.length ∧ f = .int .i32 ((nf S.L (ls.take i)).getD 0 0) ∧ (nf S.L (ls.take i)).length ≤ 1 ∧ wr = wo) (fun _ v _ => ls.length - (intOf v).toNat)
  case atStart => exact ⟨0, rfl, by omega, rfl, by simp [nf], rfl⟩
  case round =>
    obtain ⟨i, rfl, hil, rfl, hone, rfl⟩ := hrel
    by_cases hlt : i < ls.length
    · have ti : decide ((i : Int) < (ls.length : Int)) = true := decide_eq_true (by omega)
      obtain ⟨gl, rfl, fl, hl1, hl2⟩ := CL.out i hlt
      have hm := hls (ls.getD i 0) (by rw [List.getD, List.getElem?_eq_getElem hlt]; exact List.getElem_mem hlt)
      have hx2 := (one_iff _).1 hm.1
      have hst := nf_step S.L ls hlt
      obtain ⟨r, hr⟩ := nf_more S.L ls (i + 1)
      generalize ls.getD i 0 = x at *
      have fv := Lib.hid (CV.out x (by omega) (by omega))
      generalize valZ S.L x = y at *
      by_cases h2 : y = -1
      · have t2 : (y == -1) = true := by rw [beq_iff_eq]; exact h2
        rw [if_pos h2] at hst
        rw [← hst] at hone ⊢
        clear CV CL hst hr h2 hm hx2
        generalize ls.length = n at *
        go_wp2_with ((go_at_call 36; refine fv.out.mono ?_; rintro e w' ⟨rfl, rfl⟩))
        go_roundw
        case rel => exact ⟨i + 1, by go_num, by omega, rfl, hone, trivial⟩
        case measure => simp [intOf]; omega
      · have t2 : (y == -1) = false := by rw [beq_eq_false_iff_ne]; exact h2
        rw [if_neg h2] at hst
        cases hf : nf S.L (ls.take i) with
        | nil =>
          rw [hf] at hst hone
          rw [List.nil_append] at hst
          have H1 : Hid ((nf S.L (ls.take (i + 1))).getD 0 0 = x) := by unfold Hid; rw [hst]; rfl
          have H2 : Hid ((nf S.L (ls.take (i + 1))).length ≤ 1) := by unfold Hid; rw [hst]; simp
          rw [show ([] : List Int).getD 0 0 = 0 from rfl]
          clear CV CL hst hr h2 hm hx2 hf hone
          generalize ls.length = n at *
          go_wp2_with ((go_at_call 36; refine fv.out.mono ?_; rintro e w' ⟨rfl, rfl⟩))
          go_roundw
          case rel => exact ⟨i + 1, by go_num, by omega, by rw [H1.out], H2.out, trivial⟩
          case measure => simp [intOf]; omega
        | cons f t =>
          have ht : t = [] := by rw [hf] at hone; simp at hone; exact hone
          subst ht
          have hfm : f ∈ ls := by
            have : f ∈ nf S.L (ls.take i) := by rw [hf]; simp
            unfold nf at this
            exact List.mem_of_mem_take (List.mem_filter.1 this).1
          have hf2 := (one_iff _).1 (hls f hfm).1
          have tf : (f == 0) = false := by rw [beq_eq_false_iff_ne]; omega
          rw [show ([f] : List Int).getD 0 0 = f from rfl]
          have H1 : Hid (r0 = f ∧ r1 = x) := by
            unfold Hid
            rw [HR0.out, HR1.out, HR.out, hr, hst, hf]
            exact ⟨rfl, rfl⟩
          clear CV CL hst hr h2 hm hx2 hf hone hfm hf2
          generalize ls.length = n at *
          obtain ⟨rfl, rfl⟩ := H1.out
          clear H1
          go_wp2_with ((go_at_call 36; refine fv.out.mono ?_; rintro e w' ⟨rfl, rfl⟩))
          go_ret2
          exact ⟨rfl, rfl⟩
    · have ti : decide ((i : Int) < (ls.length : Int)) = false := decide_eq_false (by omega)
      have hi' : i = ls.length := by omega
      have H1 : Hid (nf S.L (ls.take i) = R) := by unfold Hid; rw [hi', List.take_length, HR.out]
      have H2 : Hid (r1 = 0) := by
        unfold Hid
        rw [HR1.out, ← H1.out, List.getD, List.getElem?_eq_none (by omega)]; rfl
      rw [H1.out, ← HR0.out]
      clear CV CL hone H1 hi'
      go_wp2_with fail
      go_ret2
      rw [H2.out]
      exact ⟨rfl, rfl⟩
end Go.Proofs.YtkckodpfhlpkgaaGreat
