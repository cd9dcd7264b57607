/- The contract of cnf.Write. -/
import Derived.Test.YtcfbnddoknpehaaGreatDoorBuild
import Derived.Test.YtcfbnddoknpehaaGreatDoorWriteM
import Derived.Test.YtcfbnddoknpehaaGreatDoorFormM
import Derived.Test.YtcfbnddoknpehaaGreatDoorRightG
import Derived.Test.YtcfbnddoknpehaaGreatDoorHoldsM
import Derived.Deep.RegionHeld3
import Derived.Deep.DeepCutAuto
import Derived.Deep.RegionWith
namespace Go.Proofs.YtcfbnddoknpehaaGreatDoor
open Go.RowKit Go.Shelf Go.Lib Words CnfP

theorem str_add (a b : List UInt8) : (⟨a.toArray⟩ : ByteArray) ++ ⟨b.toArray⟩ = ⟨(a ++ b).toArray⟩ := by
  apply ByteArray.ext
  simp

theorem writeString_b (B b : Nat) (l : List UInt8) (s : ByteArray) (w : World) (h : BldAt B b l w) (hBw : B ≤ w.heap.size) (hlen : l.length + s.size ≤ 140737488355328) :
    Calls Tryz.prog 21 #[.pointer (some ⟨b, 0, none⟩), .string s] w fun e w' => (∃ v, e = .returned v) ∧ BldAt B b (l ++ s.data.toList) w' ∧ Below B w w' := by
  have := writeString_any B b l s.data.toList w h hBw (by rw [← Lib.size_eq]; exact hlen)
  rw [mk_list] at this
  exact this
theorem itoa_st {b : Nat} {l : List UInt8} {w1 W : World} (n : Int) (h0 : -9223372036854775808 ≤ n) (h1 : n ≤ 9223372036854775807) (HL : ∀ W, Below b w1 W → LibAt W) (hb : BldAt b b l W) (h2 : Below b w1 W) (h3 : b ≤ W.heap.size) :
    Calls Tryz.prog 22 #[.int .i64 n] W fun e w' => e = .returned (.string ⟨(Lib.itoa n).toArray⟩) ∧ BldAt b b l w' ∧ Below b w1 w' ∧ b ≤ w'.heap.size := by
  refine (itoa_any n W h0 h1 (HL W h2)).mono ?_
  rintro e w' ⟨rfl, hB⟩
  exact ⟨rfl, hb.below hB, h2.trans (hB.mono h3), by have := hB.size; omega⟩
theorem head_data (v n : Int) : ([] : List UInt8) ++ ((⟨#[112, 32, 99, 110, 102, 32]⟩ : ByteArray) ++ ⟨(Lib.itoa v).toArray⟩ ++ ⟨#[32]⟩ ++ ⟨(Lib.itoa n).toArray⟩ ++ ⟨#[10]⟩).data.toList = headT v n := by
  simp [headT]
theorem data_app (a b : ByteArray) : (a ++ b).data.toList = a.data.toList ++ b.data.toList := by simp

set_option maxHeartbeats 6400000 in
set_option maxRecDepth 100000 in
theorem write_yes (v : Int) (A : Option Addr) (n c : Nat) (cs : List (List Int)) (w : World) (hl : LibAt w) (hw : 8 ≤ w.heap.size) (h : RdF w w.heap.size A n cs) (hr : Ok32 cs) (hn : n ≤ 9223372036854775807) (hv0 : -9223372036854775808 ≤ v) (hv1 : v ≤ 9223372036854775807) (hrt : rightF v cs = true) :
    Calls Tryz.prog 10 #[.agg #[.int .i64 v, .slice A n c]] w fun e w' => e = .returned (.tuple #[.string ⟨(formulaT v cs).toArray⟩, .int .i64 0]) ∧ Below w.heap.size w w' := by
  have hB0 := boxF_below w v A n c
  have HB0 := Lib.hid hB0
  have hcon := rightF_any v A n c cs _ ((h.below hB0).more hB0.size) hr hn hv0 hv1
  rw [hrt] at hcon
  unfold boxF at hcon
  have HC := Lib.hid hcon
  have HLA : Hid (∀ W, Below w.heap.size w W → LibAt W) := fun W hb => hl.below hb hw
  have HR := Lib.hid h
  have HLn := Lib.hid h.len
  obtain ⟨hv2, hv3, htot⟩ := rightF_v hrt
  have hlen := rightF_len hrt
  have hn2 : n ≤ 1048576 := by rw [h.len] at hlen; exact hlen
  clear hcon hl h hlen
  go_enter Tryz.func10, Tryz.ntmps10
  go_wp2_with fail
  refine HC.out.mono ?_
  rintro e w1 ⟨rfl, hB1⟩
  have hsz1 := hB1.size
  have hz0 : (boxF w v A n c).heap.size = w.heap.size + 1 := boxF_size w v A n c
  have hc0 := boxF_0 hB1
  have hc1 := boxF_1 hB1
  have HB1 := Lib.hid (HB0.out.trans (hB1.mono HB0.out.size))
  have hw1 : w.heap.size + 1 ≤ w1.heap.size := by show _ ≤ _; have : (boxF w v A n c).heap.size ≤ w1.heap.size := hsz1; omega
  clear hB1 hsz1 hz0 hB0
  go_wp2_with fail
  have hd0 : (w1.alloc (.cells #[.pointer none, .slice none 0 0] 55)).cell? ⟨w.heap.size, 0, none⟩ = some (.int .i64 v) := by rw [World.cell?_alloc_lt w1 _ ⟨w.heap.size, 0, none⟩ hw1]; exact hc0
  have hd1 : (w1.alloc (.cells #[.pointer none, .slice none 0 0] 55)).cell? ⟨w.heap.size, 1, none⟩ = some (.slice A n c) := by rw [World.cell?_alloc_lt w1 _ ⟨w.heap.size, 1, none⟩ hw1]; exact hc1
  have HBL := Lib.hid (BldAt.fresh w1)
  have HB2 : Hid (Below w1.heap.size w1 (w1.alloc (.cells #[.pointer none, .slice none 0 0] 55))) := (Below.refl _ _).alloc (Nat.le_refl _) _
  generalize w1.alloc (.cells #[.pointer none, .slice none 0 0] 55) = w2 at *
  have hsz2 := HB2.out.size
  generalize hbb : w1.heap.size = b at *
  clear hc0 hc1
  have HCE : Hid (∀ W, Below b w1 W → W.cell? ⟨w.heap.size, 0, none⟩ = some (.int .i64 v) ∧ W.cell? ⟨w.heap.size, 1, none⟩ = some (.slice A n c)) := fun W hW => by
    rw [hW.cell (p := ⟨w.heap.size, 0, none⟩) hw1, hW.cell (p := ⟨w.heap.size, 1, none⟩) hw1]
    exact ⟨(HB2.out.cell (p := ⟨w.heap.size, 0, none⟩) hw1).symm.trans hd0, (HB2.out.cell (p := ⟨w.heap.size, 1, none⟩) hw1).symm.trans hd1⟩
  have HLB : Hid (∀ W, Below b w1 W → LibAt W) := fun W hW => HLA.out W (HB1.out.trans (hW.mono (by omega)))
  have hlv := itoa_len (n := v) (by omega) (by omega)
  have hln := itoa_len (n := (n : Int)) (by omega) (by omega)
  have HLI := Lib.hid (And.intro hlv hln)
  have HBLd : Hid (BldAt b b [] w2.drew) := HBL.out
  have HB2d : Hid (Below b w1 w2.drew) := HB2.out.drew
  have hsz2d : b ≤ w2.drew.heap.size := hsz2
  have hlv2 : (⟨(Lib.itoa v).toArray⟩ : ByteArray).size ≤ 10 := by rw [size_mk]; exact hlv
  have hln2 : (⟨(Lib.itoa (n : Int)).toArray⟩ : ByteArray).size ≤ 10 := by rw [size_mk]; exact hln
  go_cut [] (fun wx => Hid (BldAt b b (headT v n) wx) ∧ Hid (Below b w1 wx))
  case first =>
    go_region_with (first
      | (go_at_call_of 22 (Value.int .i64 v); refine (itoa_st (l := []) (w1 := w1) (b := b) v (by omega) (by omega) HLB.out HBLd.out HB2d.out hsz2d).mono ?_; rintro e w3 ⟨rfl, hb3, hB3, hs3⟩; have hx3 := (HCE.out _ hB3); obtain ⟨hx30, hx31⟩ := hx3; have HBL3 := Lib.hid hb3; have HB3 := Lib.hid hB3; clear hb3 hB3)
      | (go_at_call_of 22 (Value.int .i64 (n : Int)); refine (itoa_st (l := []) (w1 := w1) (b := b) (n : Int) (by omega) (by omega) HLB.out HBL3.out HB3.out hs3).mono ?_; rintro e w4 ⟨rfl, hb4, hB4, hs4⟩; have HBL4 := Lib.hid hb4; have HB4 := Lib.hid hB4; clear hb4 hB4)
      | (go_at_call 21; refine (writeString_b b b [] _ _ HBL4.out hs4 (by have := HLI.out; simp [Lib.size_eq]; omega)).mono ?_; rintro e w5 ⟨⟨vv, rfl⟩, hb5, hB5⟩; have HBL5 := Lib.hid hb5; have HB5 := Lib.hid (HB4.out.trans hB5); clear hb5 hB5))
    all_goals (go_wp2_with fail; go_meet; have hx := HBL5.out; rw [head_data] at hx; exact ⟨hx, HB5.out⟩)
  case rest =>
    obtain ⟨HB3, HW3⟩ := hcut
    have hx3 := HCE.out _ HW3.out
    obtain ⟨hx30, hx31⟩ := hx3
    go_wp2_with fail
    go_loopw [6, 27] (fun _ iv wr => ∃ k : Nat, k ≤ n ∧ iv = .int .i64 k ∧ Hid (BldAt b b (headT v n ++ (cs.take k).flatMap clauseT) wr) ∧ Hid (Below b w1 wr) ∧ Hid (b ≤ wr.heap.size)) (fun _ iv _ => n - (RowKit.intOf iv).toNat)
    case atStart => exact ⟨0, Nat.zero_le _, rfl, by show BldAt _ _ _ _; simpa using HB3.out, HW3.out, Nat.le_of_lt HB3.out.lt⟩
    case round =>
      obtain ⟨k, hk, rfl, HBk, HWk, HSk⟩ := hrel
      have hsk := HSk.out
      by_cases hlt : k < n
      · obtain ⟨wo, rfl⟩ : ∃ wo : World, wo = wr := ⟨_, rfl⟩
        have hRk := HR.out.below (HB1.out.trans (HWk.out.mono (by omega)))
        obtain ⟨bc, oc, Aj, nj, cj, rfl, hb1, hc1, hRj⟩ := hRk.get hlt
        have hlk : k < cs.length := by rw [HLn.out]; exact hlt
        have HTS := Lib.hid (take_snocF hlk)
        have hcm : cs.getD k [] ∈ cs := by rw [getF_lt hlk]; exact List.getElem_mem hlk
        have HBD := Lib.hid (rightF_bd hrt (cs.getD k []) hcm)
        have hct := mem_total cs _ hcm
        have htl := clausesT_len (cs.take k) (fun c hc => rightF_bd hrt c (List.mem_of_mem_take hc))
        have hht := headT_len (v := v) (n := (n : Int)) hv2 hv3 (by omega) (by omega)
        have htt := total_take cs k
        have hpre : (headT v n ++ (cs.take k).flatMap clauseT).length ≤ 60000000 := by
          rw [List.length_append]
          have : (cs.take k).length ≤ k := List.length_take_le _ _
          omega
        have hnj : nj ≤ 4194304 := by have := hRj.len; omega
        have HNJ := Lib.hid hRj.len
        have HRJ := Lib.hid hRj
        have h32 := fun j => (hr k).2 j
        clear hcm hct htl hht htt hRk hRj
        generalize hpe : (headT v n ++ (cs.take k).flatMap clauseT) = pre at *
        have HPRE := Lib.hid hpe
        clear hpe
        generalize cs.getD k [] = cl at *
        go_wp2_with fail
        go_loopw [8, 33] (fun _ iv wr => ∃ j : Nat, j ≤ nj ∧ iv = .int .i64 j ∧ Hid (BldAt b b (pre ++ litsT (cl.take j)) wr) ∧ Hid (Below b w1 wr) ∧ Hid (b ≤ wr.heap.size)) (fun _ iv _ => nj - (RowKit.intOf iv).toNat)
        case atStart => exact ⟨0, Nat.zero_le _, rfl, by show BldAt _ _ _ _; simpa [litsT] using HBk.out, HWk.out, HSk.out⟩
        case round =>
          obtain ⟨j, hj, rfl, HBj, HWj, HSj⟩ := hrel
          have hsj := HSj.out
          have hlj := litsT_len (cl.take j) (fun l hl => HBD.out l (List.mem_of_mem_take hl))
          have hljj : (cl.take j).length ≤ j := List.length_take_le _ _
          have hll : (pre ++ litsT (cl.take j)).length ≤ 110000000 := by rw [List.length_append]; omega
          clear hlj hljj
          by_cases hltj : j < nj
          · have hRjj := HRJ.out.keep (w' := wr) (fun p hp => (HWj.out.cell (p := p) (by omega)).trans (HWk.out.cell (p := p) (by omega)).symm)
            obtain ⟨bj, oj, rfl, hbj, hcj⟩ := hRjj.get hltj
            have hbd := HBD.out (cl.getD j 0) (mem_getD.2 ⟨j, by rw [HNJ.out]; exact hltj, rfl⟩)
            have hts : litsT (cl.take (j + 1)) = litsT (cl.take j) ++ litT (cl.getD j 0) := by
              rw [List.take_succ_eq_append_getElem (by rw [HNJ.out]; exact hltj), litsT_snoc, getD_lt (by rw [HNJ.out]; exact hltj)]
            have hil := itoa_len (n := cl.getD j 0) (by omega) (by omega)
            have HT2 := Lib.hid hts
            have HIT := Lib.hid (itoa_st (l := pre ++ litsT (cl.take j)) (w1 := w1) (b := b) (cl.getD j 0) (by omega) (by omega) HLB.out HBj.out HWj.out hsj)
            have hlT : litT (cl.getD j 0) = Lib.itoa (cl.getD j 0) ++ [32] := rfl
            have HLT := Lib.hid hlT
            clear hts hlT hRjj
            generalize cl.getD j 0 = x at *
            generalize hae : pre ++ litsT (cl.take j) = acc at *
            have HACC := Lib.hid hae
            clear hae
            go_wp2_with fail
            refine HIT.out.mono ?_
            rintro e w5 ⟨rfl, hb5, hB5, hs5⟩
            have HWS := Lib.hid (writeString_any b b _ (Lib.itoa x) w5 hb5 hs5 (by omega))
            have HB5 := Lib.hid hB5
            clear hb5 hB5
            go_wp2_with fail
            refine HWS.out.mono ?_
            rintro e w6 ⟨⟨vv, rfl⟩, hb6, hB6⟩
            have hs6 : b ≤ w6.heap.size := by have := hB6.size; omega
            have HWB := Lib.hid (writeByte_any b b _ w6 hb6 hs6 (by rw [List.length_append]; omega))
            have HB6 := Lib.hid (HB5.out.trans hB6)
            clear hb6 hB6
            go_wp2_with fail
            refine HWB.out.mono ?_
            rintro e w7 ⟨⟨vv2, rfl⟩, hb7, hB7⟩
            have HB7 := Lib.hid (HB6.out.trans hB7)
            have HBL7 := Lib.hid hb7
            have hs7 : b ≤ w7.heap.size := by have := hB7.size; omega
            clear hb7 hB7
            go_wp2_with fail
            go_roundw
            case rel =>
              refine ⟨j + 1, by omega, by go_num, ?_, HB7.out, hs7⟩
              show BldAt b b (pre ++ litsT (cl.take (j + 1))) w7
              rw [HT2.out, HLT.out, ← List.append_assoc, ← List.append_assoc, HACC.out]
              exact HBL7.out
            case measure => simp [RowKit.intOf]; omega
          · have hjn : j = cl.length := by rw [HNJ.out]; omega
            have hall : cl.take j = cl := List.take_of_length_le (by omega)
            rw [hall] at HBj hll
            have HWS := Lib.hid (writeString_any b b _ [48, 10] wr HBj.out hsj (by simp only [List.length_cons, List.length_nil]; omega))
            clear hall hjn
            go_wp2_with fail
            refine HWS.out.mono ?_
            rintro e w6 ⟨⟨vv, rfl⟩, hb6, hB6⟩
            have HB6 := Lib.hid (HWj.out.trans hB6)
            have HBL6 := Lib.hid hb6
            have hs6 : b ≤ w6.heap.size := by have := hB6.size; omega
            clear hb6 hB6
            go_wp2_with fail
            go_roundw
            case rel =>
              refine ⟨k + 1, by omega, by go_num, ?_, HB6.out, hs6⟩
              show BldAt b b (headT v n ++ (cs.take (k + 1)).flatMap clauseT) w6
              rw [HTS.out, clausesT_snoc, ← List.append_assoc, HPRE.out]
              unfold clauseT
              rw [← List.append_assoc]
              exact HBL6.out
            case measure => simp [RowKit.intOf]; omega
      · have hkn : k = cs.length := by rw [HLn.out]; omega
        have hall : cs.take k = cs := List.take_of_length_le (by omega)
        have HFT : Hid (headT v n ++ (cs.take k).flatMap clauseT = formulaT v cs) := by
          unfold Hid formulaT
          rw [hall, HLn.out]
        have hBk := HBk.out
        rw [HFT.out] at hBk
        have HST := Lib.hid (string_any b b _ wr hBk hsk)
        clear hall hkn hBk
        go_wp2_with fail
        refine HST.out.mono ?_
        rintro e w9 ⟨rfl, hB9⟩
        have HB9 := Lib.hid (HB1.out.trans ((HWk.out.trans hB9).mono (by omega)))
        clear hB9
        go_wp2_with fail
        go_ret2
        exact ⟨rfl, HB9.out⟩
end Go.Proofs.YtcfbnddoknpehaaGreatDoor
