/- The contract of the plain answer's Write. -/
import Derived.Test.YtamfbnmpllogbaaGreatDoorPDec
import Derived.Test.YtamfbnmpllogbaaGreatDoorPFalse
import Derived.Test.YtamfbnmpllogbaaGreatDoorWriteM
namespace Go.Proofs.YtamfbnmpllogbaaGreatDoor
open Go.RowKit LitM CnfP

theorem lits_len (c : List Int) (h : ∀ l ∈ c, -262144 ≤ l ∧ l ≤ 262144) (k : Nat) : (litsT (c.take k)).length ≤ 11 * c.length := by
  have h1 := litsT_len (c.take k) (fun l hl => h l (List.mem_of_mem_take hl))
  have : (c.take k).length ≤ c.length := by rw [List.length_take]; omega
  omega
theorem clauses_len (cs : List (List Int)) (h : ∀ c ∈ cs, ∀ l ∈ c, -262144 ≤ l ∧ l ≤ 262144) (k : Nat) : ((cs.take k).flatMap clauseT).length ≤ 11 * total cs + 2 * cs.length := by
  have h1 := clausesT_len (cs.take k) (fun c hc => h c (List.mem_of_mem_take hc))
  have h2 := total_take cs k
  have : (cs.take k).length ≤ cs.length := by rw [List.length_take]; omega
  omega
theorem total_at {cs : List (List Int)} {k : Nat} (h : k < cs.length) : (cs.getD k []).length ≤ total cs := by
  have := total_succ h
  have := total_take cs (k + 1)
  omega

/-- The outer loop's relation, the inner one's. -/
def PW1 (n : Nat) (H : List UInt8) (cs : List (List Int)) (w1 : World) (o i : Value) (wr : World) : Prop :=
  ∃ k q : Nat, i = .int .i64 (k : Int) ∧ k ≤ n ∧ o = .string ⟨(H ++ (cs.take k).flatMap clauseT).toArray⟩ ∧ wr = w1.drewN q
def PW2 (m : Nat) (H : List UInt8) (xs : List Int) (w1 : World) (o i : Value) (wr : World) : Prop :=
  ∃ k q : Nat, i = .int .i64 (k : Int) ∧ k ≤ m ∧ o = .string ⟨(H ++ litsT (xs.take k)).toArray⟩ ∧ wr = w1.drewN q

set_option maxHeartbeats 6400000 in
set_option maxRecDepth 100000 in
theorem rwrite_no (v : Int) (A : Option Addr) (n c : Nat) (cs : List (List Int)) (w : World) (h : RdF w w.heap.size A n cs) (hr : Ok32 cs) (hn : n ≤ 100000) (ht : total cs ≤ 100000) (hrt : rightF v cs = false) :
    Calls Tryz.prog 11 #[.agg #[.int .i64 v, .slice A n c]] w fun e w' => e = .returned (.tuple #[.string ⟨#[]⟩, .int .i64 21]) ∧ Below w.heap.size w w' := by
  have hb0 := boxF_below w v A n c
  have HB0 := Lib.hid hb0
  have HRI := Lib.hid (rrightF_any v A n c cs (boxF w v A n c) ((h.below hb0).more (by rw [boxF_size]; omega)) hr hn ht)
  unfold boxF at HRI
  rw [hrt] at HRI
  clear h hb0 hrt
  go_enter Tryz.func11, Tryz.ntmps11
  go_wp2_with fail
  refine HRI.out.mono ?_
  rintro e w1 ⟨rfl, hB1⟩
  have HB1 := Lib.hid (HB0.out.trans (hB1.mono HB0.out.size))
  clear hB1
  go_wp2_with fail
  go_ret2
  exact ⟨rfl, HB1.out⟩

set_option maxHeartbeats 6400000 in
set_option maxRecDepth 100000 in
theorem rwrite_yes (v : Int) (A : Option Addr) (n c : Nat) (cs : List (List Int)) (w : World) (h : RdF w w.heap.size A n cs) (hr : Ok32 cs) (hn : n ≤ 100000) (ht : total cs ≤ 100000) (hrt : rightF v cs = true) :
    Calls Tryz.prog 11 #[.agg #[.int .i64 v, .slice A n c]] w fun e w' => e = .returned (.tuple #[.string ⟨(formulaT v cs).toArray⟩, .int .i64 0]) ∧ Below w.heap.size w w' := by
  have hL := h.len
  have hb0 := boxF_below w v A n c
  have HB0 := Lib.hid hb0
  have HRI := Lib.hid (rrightF_any v A n c cs (boxF w v A n c) ((h.below hb0).more (by rw [boxF_size]; omega)) hr hn ht)
  unfold boxF at HRI
  rw [hrt] at HRI
  have HV : Hid (∀ W, Below (boxF w v A n c).heap.size (boxF w v A n c) W → W.cell? ⟨w.heap.size, 0, none⟩ = some (.int .i64 v) ∧ W.cell? ⟨w.heap.size, 1, none⟩ = some (.slice A n c)) := fun W hW => ⟨boxF_0 hW, boxF_1 hW⟩
  have HF := Lib.hid (fun W (hW : Below w.heap.size w W) => h.below hW)
  have HL := Lib.hid hL
  obtain ⟨hv0, hv1, _⟩ := rightF_v hrt
  have hbd := rightF_bd hrt
  have HBD := Lib.hid hbd
  have hd1 := itoa_len (n := v) (by omega) (by omega)
  have hd2 := itoa_len (n := (n : Int)) (by omega) (by omega)
  obtain ⟨s1, hs1⟩ : ∃ s, s = [112, 32, 99, 110, 102, 32] ++ Lib.itoa v := ⟨_, rfl⟩
  obtain ⟨s2, hs2⟩ : ∃ s, s = s1 ++ [32] := ⟨_, rfl⟩
  obtain ⟨s3, hs3⟩ : ∃ s, s = s2 ++ Lib.itoa (n : Int) := ⟨_, rfl⟩
  obtain ⟨s4, hs4⟩ : ∃ s, s = s3 ++ [10] := ⟨_, rfl⟩
  have l1 : s1.length ≤ 16 := by rw [hs1]; simp; omega
  have l2 : s2.length ≤ 17 := by rw [hs2]; simp; omega
  have l3 : s3.length ≤ 27 := by rw [hs3]; simp; omega
  have l4 : s4.length ≤ 28 := by rw [hs4]; simp; omega
  have HH : Hid (s4 = headT v cs.length) := by unfold Hid; rw [hs4, hs3, hs2, hs1, hL]; rfl
  have a1 := fun W => add_lists [112, 32, 99, 110, 102, 32] (Lib.itoa v) s1 #[112, 32, 99, 110, 102, 32] (Lib.itoa v).toArray rfl rfl hs1 (by simp; omega) W
  have a2 := fun W => add_lists s1 [32] s2 s1.toArray #[32] rfl rfl hs2 (by simp; omega) W
  have a3 := fun W => add_lists s2 (Lib.itoa (n : Int)) s3 s2.toArray (Lib.itoa (n : Int)).toArray rfl rfl hs3 (by omega) W
  have a4 := fun W => add_lists s3 [10] s4 s3.toArray #[10] rfl rfl hs4 (by simp; omega) W
  have HD1 := Lib.hid (fun W => dec_any v W (by omega) (by omega))
  have HD2 := Lib.hid (fun W => dec_any (n : Int) W (by omega) (by omega))
  clear h hb0 hrt hbd hL hs1 hs2 hs3 hs4 l1 l2 l3 hd1 hd2
  generalize Lib.itoa v = D1 at *
  generalize Lib.itoa (n : Int) = D2 at *
  go_enter Tryz.func11, Tryz.ntmps11
  go_wp2_with fail
  refine HRI.out.mono ?_
  rintro e w1 ⟨rfl, hB1⟩
  have hB1' : Below (boxF w v A n c).heap.size (boxF w v A n c) w1 := hB1
  obtain ⟨f0, f1⟩ := HV.out w1 hB1'
  have HB1 := Lib.hid (HB0.out.trans (hB1'.mono HB0.out.size))
  clear hB1 hB1' HRI HV
  go_wp2_with fail
  go_quiet ((first | (go_at_call_of 25 (Value.int .i64 v); exact Calls.quiet_of (HD1.out _)) | (go_at_call_of 25 (Value.int .i64 (n : Int)); exact Calls.quiet_of (HD2.out _))))
  generalize hW2 : w1.drewN _ = W2
  have HB2 : Hid (Below w.heap.size w W2) := by rw [← hW2]; exact below_drewN HB1.out _
  have f1 : W2.cell? ⟨w.heap.size, 1, none⟩ = some (.slice A n c) := by rw [← hW2]; exact f1
  clear hW2 a1 a2 a3 a4 HD1 HD2 f0
  have HS : Hid (PW1 n s4 cs W2 (.string ⟨s4.toArray⟩) (.int .i64 0) W2) := ⟨0, 0, rfl, Nat.zero_le _, by simp, rfl⟩
  go_wp2_with fail
  go_loopw [4, 26] (fun o i wr => PW1 n s4 cs W2 o i wr) (fun _ i _ => n - (intOf i).toNat)
  case atStart => exact HS.out
  case round =>
    clear HS f1
    obtain ⟨k, q, rfl, hk, rfl, hwr⟩ := hrel
    have HWR := Lib.hid hwr
    have HBr : Hid (Below w.heap.size w wr) := by rw [hwr]; exact below_drewN HB2.out _
    clear hwr
    by_cases hlt : k < n
    · obtain ⟨b, o, Aj, nj, cj, rfl, hbb, hc, hRj⟩ := (HF.out _ HBr.out).get hlt
      have hkl : k < cs.length := by rw [HL.out]; exact hlt
      have HRJ := Lib.hid hRj
      have HLJ := Lib.hid hRj.len
      have hnj : nj ≤ 100000 := by have := total_at hkl; have := HLJ.out; omega
      have HXB : Hid (∀ l ∈ cs.getD k [], -262144 ≤ l ∧ l ≤ 262144) := fun l hl => HBD.out _ (by rw [getF_lt hkl] at hl ⊢; exact List.getElem_mem hkl) l hl
      have hcl := clauses_len cs HBD.out k
      have hPl : (s4 ++ (cs.take k).flatMap clauseT).length ≤ 1300100 := by rw [List.length_append]; have := HL.out; omega
      have HNX : Hid (∀ d, PW1 n s4 cs W2 (.string ⟨((s4 ++ (cs.take k).flatMap clauseT) ++ clauseT (cs.getD k [])).toArray⟩) (.int .i64 ((k : Int) + 1)) (wr.drewN d)) := fun d =>
        ⟨k + 1, q + d, by rw [show ((k + 1 : Nat) : Int) = (k : Int) + 1 from by omega], hlt, by rw [take_snocF hkl, clausesT_snoc, List.append_assoc], by rw [HWR.out]; exact World.drewN_drewN _ _ _⟩
      clear hRj hkl hcl
      generalize cs.getD k [] = xs at *
      generalize s4 ++ (cs.take k).flatMap clauseT = P at *
      have HS2 : Hid (PW2 nj P xs wr (.string ⟨P.toArray⟩) (.int .i64 0) wr) := ⟨0, 0, rfl, Nat.zero_le _, by simp [litsT], rfl⟩
      go_wp2_with fail
      obtain ⟨wo, rfl⟩ : ∃ wo : World, wo = wr := ⟨_, rfl⟩
      go_loopw [4, 32] (fun o i wr => PW2 nj P xs wo o i wr) (fun _ i _ => nj - (intOf i).toNat)
      case atStart => exact HS2.out
      case round =>
        clear HS2 hc
        obtain ⟨i, q2, rfl, hi, rfl, hwr2⟩ := hrel
        have HWR2 := Lib.hid hwr2
        have HLL := Lib.hid (lits_len xs HXB.out i)
        have hPl2 : (P ++ litsT (xs.take i)).length ≤ 2400100 := by rw [List.length_append]; have := HLL.out; have := HLJ.out; omega
        by_cases hlt2 : i < nj
        · obtain ⟨b2, o2, rfl, hb2, hc2⟩ := HRJ.out.get hlt2
          have hc3 : wr.cell? ⟨b2, o2 + i, none⟩ = some (.int .i32 (xs.getD i 0)) := by rw [hwr2]; exact hc2
          have hil : i < xs.length := by rw [HLJ.out]; exact hlt2
          obtain ⟨hx0, hx1⟩ := HXB.out (xs.getD i 0) (mem_getD.2 ⟨i, hil, rfl⟩)
          have HDL := Lib.hid (dec_any (xs.getD i 0) wr (by omega) (by omega))
          have hdl := itoa_len (n := xs.getD i 0) (by omega) (by omega)
          have g1 := fun W => add_lists (Lib.itoa (xs.getD i 0)) [32] (litT (xs.getD i 0)) (Lib.itoa (xs.getD i 0)).toArray #[32] rfl rfl rfl (by show (Lib.itoa (xs.getD i 0)).length + 1 ≤ 9223372036854775807; omega) W
          have hll : (litT (xs.getD i 0)).length ≤ 11 := by unfold litT; rw [List.length_append]; show _ + 1 ≤ 11; omega
          have g2 := fun W => add_lists (P ++ litsT (xs.take i)) (litT (xs.getD i 0)) ((P ++ litsT (xs.take i)) ++ litT (xs.getD i 0)) (P ++ litsT (xs.take i)).toArray (litT (xs.getD i 0)).toArray rfl rfl rfl (by omega) W
          have HR2 : Hid (∀ d, PW2 nj P xs wo (.string ⟨((P ++ litsT (xs.take i)) ++ litT (xs.getD i 0)).toArray⟩) (.int .i64 ((i : Int) + 1)) (wr.drewN d)) := fun d =>
            ⟨i + 1, q2 + d, by rw [show ((i + 1 : Nat) : Int) = (i : Int) + 1 from by omega], hlt2, by rw [List.take_succ_eq_append_getElem hil, litsT_snoc, List.append_assoc, getD_lt hil], by rw [HWR2.out]; exact World.drewN_drewN _ _ _⟩
          clear hil hdl hwr2 hc2
          generalize (P ++ litsT (xs.take i)) ++ litT (xs.getD i 0) = P3 at *
          generalize P ++ litsT (xs.take i) = P2 at *
          generalize litT (xs.getD i 0) = Lx at *
          generalize xs.getD i 0 = x at *
          generalize Lib.itoa x = Dx at *
          go_wp2_with fail
          refine HDL.out.mono ?_
          rintro e w' ⟨rfl, d, rfl⟩
          go_wp2_with fail
          go_roundw
          case rel => exact HR2.out _
          case measure => simp [intOf]; omega
        · have ti : decide (i < nj) = false := decide_eq_false hlt2
          have hin : i = nj := by omega
          have hfull : xs.take i = xs := by rw [hin, ← HLJ.out]; exact List.take_length
          have g3 := fun W => add_lists (P ++ litsT (xs.take i)) [48, 10] (P ++ clauseT xs) (P ++ litsT (xs.take i)).toArray #[48, 10] rfl rfl (by rw [hfull]; unfold clauseT; rw [List.append_assoc]) (by simp at hPl2 ⊢; omega) W
          have HE : Hid (PW1 n s4 cs W2 (.string ⟨(P ++ clauseT xs).toArray⟩) (.int .i64 ((k : Int) + 1)) wr) := by rw [hwr2]; exact HNX.out q2
          clear hin hfull hwr2
          generalize P ++ clauseT xs = P3 at *
          generalize P ++ litsT (xs.take i) = P2 at *
          go_wp2_with fail
          go_roundw
          case rel => exact HE.out
          case measure => simp [intOf]; omega
    · have tk : decide (k < n) = false := decide_eq_false hlt
      have hfull : cs.take k = cs := by rw [show k = cs.length from by rw [HL.out]; omega]; exact List.take_length
      have HE : Hid (s4 ++ (cs.take k).flatMap clauseT = formulaT v cs) := by unfold Hid; rw [hfull, HH.out]; rfl
      clear hfull
      go_wp2_with fail
      go_ret2
      exact ⟨by rw [← HE.out]; rfl, HBr.out⟩
end Go.Proofs.YtamfbnmpllogbaaGreatDoor
