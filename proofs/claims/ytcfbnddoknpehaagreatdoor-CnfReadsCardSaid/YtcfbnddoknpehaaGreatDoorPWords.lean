/- The contract of the plain answer's words. -/
import Derived.Test.YtcfbnddoknpehaaGreatDoorPWordsM
import Derived.Deep.DeepCutAuto
import Derived.Deep.CutBlock
namespace Go.Proofs.YtcfbnddoknpehaaGreatDoor
open Go.RowKit LitM CnfP Words

/-- What words answers. -/
def WPost (s : List UInt8) (w : World) (e : Ending) (w' : World) : Prop := ∃ v, e = .returned v ∧ OwnS w' w.heap.size v (wordsL s) ∧ Below w.heap.size w w'
theorem OwnS.form {w : World} {B : Nat} {v : Value} {ws : List (List UInt8)} (h : OwnS w B v ws) : ∃ A c, v = .slice A ws.length c := by
  rcases h.2 with ⟨rfl, h0⟩ | ⟨g, cap, cur, rfl, _⟩
  · exact ⟨none, 0, by rw [h0]⟩
  · exact ⟨_, _, rfl⟩
theorem ext_one (s : List UInt8) (k : Nat) (h : k < s.length) : (⟨s.toArray⟩ : ByteArray).extract k (k + 1) = ⟨[s.getD k 0].toArray⟩ := by
  apply ByteArray.ext
  rw [ByteArray.data_extract]
  apply Array.ext'
  rw [List.extract_toArray]
  show (s.drop k).take (k + 1 - k) = _
  rw [drop_at h, show k + 1 - k = 1 from by omega]
  rfl
theorem empty_app (a : ByteArray) : (⟨#[]⟩ : ByteArray) ++ a = a := by
  apply ByteArray.ext; simp

theorem byte_beq (c k : UInt8) : (((c.toNat : Nat) : Int) == (k.toNat : Int)) = (c == k) := by
  rw [Bool.eq_iff_iff, beq_iff_eq, beq_iff_eq]
  constructor
  · intro e; exact UInt8.toNat_inj.1 (by omega)
  · intro e; rw [e]
theorem ne_byte (c k : UInt8) : (((c.toNat : Nat) : Int) != (k.toNat : Int)) = !(c == k) := by
  rw [bne, byte_beq]
theorem remark_shape (L : List UInt8) : (L.length = 0 ∧ remarkB L = false) ∨ (L.length = 1 ∧ remarkB L = (L.getD 0 0 == 99)) ∨ (2 ≤ L.length ∧ remarkB L = (L.getD 0 0 == 99 && (L.getD 1 0 == 32 || L.getD 1 0 == 9))) := by
  rcases L with _ | ⟨c, _ | ⟨d, t⟩⟩
  · exact .inl ⟨rfl, rfl⟩
  · exact .inr (.inl ⟨rfl, rfl⟩)
  · exact .inr (.inr ⟨by simp, rfl⟩)
theorem one_cellS {w : World} {y : ByteArray} : ∀ j u, [Value.string y][j]? = some u → (w.alloc (.cells #[.string y] 9)).cell? ((⟨w.heap.size, 0, none⟩ : Addr).add j) = some u := by
  intro j u hj
  match j, hj with
  | 0, hj => simp at hj; subst hj; simp [Addr.add]
theorem one_oneS {y : ByteArray} : ∀ u ∈ [Value.string y], u.oneCell' = true := by
  intro u hu; simp at hu; subst hu; rfl

set_option maxHeartbeats 6400000 in
set_option maxRecDepth 100000 in
theorem pwords_any (s : List UInt8) (w : World) (hs : s.length ≤ 4000) :
    Calls Tryz.prog 31 #[.string ⟨s.toArray⟩] w (WPost s w) := by
  obtain ⟨i0, hi, hz0, hz1, hz2⟩ := info_parts info_str
  obtain ⟨sb, hsb⟩ : ∃ sb : ByteArray, sb = ⟨s.toArray⟩ := ⟨_, rfl⟩
  have hn : sb.size = s.length := by rw [hsb, size_mk]
  have hat : ∀ (k : Nat) (h : k < sb.size), sb[k]'h = s.getD k 0 := fun k h => by subst hsb; rw [List.getD_eq_getElem?_getD]; rw [size_mk] at h; rw [List.getElem?_eq_getElem h]; rfl
  have hex : ∀ k, k < s.length → sb.extract k (k + 1) = ⟨[s.getD k 0].toArray⟩ := fun k h => by rw [hsb]; exact ext_one s k h
  have HAT := Lib.hid hat
  have HEX := Lib.hid hex
  rw [← hsb]
  clear hsb hat hex
  go_enter Tryz.func31, Tryz.ntmps31
  go_wp2
  go_loopw [3, 4, 5] (fun o l i wr => WOut s w o l i wr) (fun _ _ i _ => s.length + 1 - (intOf i).toNat)
  case atStart => exact ⟨0, [], [], rfl, by omega, rfl, World.ownsRow_made w #[] 0 (Nat.le_refl _) (by unfold maxLen; omega) rfl, (Below.refl _ _).alloc (Nat.le_refl _) _, by simp, fun _ => rfl, fun e => absurd e (by omega)⟩
  case round =>
    obtain ⟨k, ws, L, rfl, hk, rfl, hO, hB, hc, hw1, hw2⟩ := hrel
    have HO := Lib.hid hO
    have HB := Lib.hid hB
    have HW1 := Lib.hid hw1
    have HW2 := Lib.hid hw2
    clear hO hB hw1 hw2
    obtain ⟨lb, hlb⟩ : ∃ lb : ByteArray, lb = ⟨L.toArray⟩ := ⟨_, rfl⟩
    rw [← hlb]
    have hz : lb.size = L.length := by rw [hlb, size_mk]
    have hlat : ∀ (k : Nat) (h : k < lb.size), lb[k]'h = L.getD k 0 := fun k h => by subst hlb; rw [List.getD_eq_getElem?_getD]; rw [size_mk] at h; rw [List.getElem?_eq_getElem h]; rfl
    have HLAT := Lib.hid hlat
    have HLB := Lib.hid hlb
    clear hlat hlb
    by_cases hke : k = s.length + 1
    · have tk : decide (k ≤ s.length) = false := decide_eq_false (by omega)
      have tk' : decide ((k : Int) ≤ (s.length : Int)) = false := decide_eq_false (by omega)
      have HKE := Lib.hid hke
      clear hke
      go_wp2
      go_ret
      exact ⟨_, rfl, by rw [← HW2.out HKE.out]; exact HO.out, HB.out⟩
    have tk : decide (k ≤ s.length) = true := decide_eq_true (by omega)
    have tk' : decide ((k : Int) ≤ (s.length : Int)) = true := decide_eq_true (by omega)
    obtain ⟨b, hb⟩ : ∃ b : Bool, (b = true ∧ k < s.length ∧ (s.getD k 0 == 10) = false) ∨ (b = false ∧ k < s.length ∧ (s.getD k 0 == 10) = true) ∨ (b = false ∧ ¬ k < s.length) := by
      by_cases h1 : k < s.length
      · rcases hx : s.getD k 0 == 10 with _ | _
        · exact ⟨true, .inl ⟨rfl, h1, rfl⟩⟩
        · exact ⟨false, .inr (.inl ⟨rfl, h1, rfl⟩)⟩
      · exact ⟨false, .inr (.inr ⟨rfl, h1⟩)⟩
    have HBB := Lib.hid hb
    clear hb
    go_upto_region 6 with (fail)
    go_cut [25] (fun c wx => c = .bool b ∧ wr = wx)
    case first =>
      rcases HBB.out with ⟨rfl, h1, hx⟩ | ⟨rfl, h1, hx⟩ | ⟨rfl, h1⟩
      · have t1 : decide (k < s.length) = true := decide_eq_true h1
        have t1' : decide ((k : Int) < (s.length : Int)) = true := decide_eq_true (by omega)
        have h1' : k < sb.size := by omega
        have px : (((sb[k]'h1').toNat : Int) != 10) = true := by
          rw [HAT.out k h1', bne_iff_ne]
          intro e
          rw [beq_eq_false_iff_ne] at hx
          exact hx (UInt8.toNat_inj.1 (by show (s.getD k 0).toNat = 10; omega))
        go_wp2
        go_meet
        exact ⟨rfl, rfl⟩
      · have t1 : decide (k < s.length) = true := decide_eq_true h1
        have t1' : decide ((k : Int) < (s.length : Int)) = true := decide_eq_true (by omega)
        have h1' : k < sb.size := by omega
        have px : (((sb[k]'h1').toNat : Int) != 10) = false := by
          rw [HAT.out k h1', eq_of_beq hx]; rfl
        go_wp2
        go_meet
        exact ⟨rfl, rfl⟩
      · have t1 : decide (k < s.length) = false := decide_eq_false h1
        have t1' : decide ((k : Int) < (s.length : Int)) = false := decide_eq_false (by omega)
        go_wp2
        go_meet
        exact ⟨rfl, rfl⟩
    case rest =>
      obtain ⟨rfl, rfl⟩ := hcut
      rcases b with _ | _
      case true =>
        have h1 : k < s.length ∧ (s.getD k 0 == 10) = false := by
          rcases HBB.out with ⟨_, h1, hx⟩ | ⟨h, _⟩ | ⟨h, _⟩
          · exact ⟨h1, hx⟩
          · cases h
          · cases h
        have p1 : k + 1 ≤ s.length := h1.1
        have p2 : (k : Int) + 1 ≤ (s.length : Int) := by omega
        have HX := Lib.hid h1
        clear h1
        go_wp2
        go_roundw
        case rel =>
          refine ⟨k + 1, ws, L ++ [s.getD k 0], by go_num, by omega, by rw [HEX.out k HX.out.1, HLB.out, join_str], HO.out, HB.out, by simp; omega, fun _ => ?_, fun e => absurd e (by omega)⟩
          rw [← goL_step HX.out.1 HX.out.2]
          exact HW1.out (by omega)
        case measure => simp [intOf]; omega
      case false =>
        have HN : Hid (∀ ws2, ws2 = ws ++ lineW L → (k + 1 ≤ s.length → ws2 ++ goL [] (s.drop (k + 1)) = wordsL s) ∧ (k + 1 = s.length + 1 → ws2 = wordsL s)) := by
          intro ws2 e
          have hw := HW1.out (by omega)
          rcases HBB.out with ⟨h, _⟩ | ⟨_, h1, hx⟩ | ⟨_, h1⟩
          · cases h
          · rw [goL_break h1 hx] at hw
            exact ⟨fun _ => by rw [e, List.append_assoc]; exact hw, fun h => absurd h (by omega)⟩
          · rw [goL_end h1] at hw
            exact ⟨fun h => absurd h (by omega), fun _ => by rw [e]; exact hw⟩
        have HLC := Lib.hid (lineW_count L)
        obtain ⟨rm, hrm⟩ : ∃ rm, rm = remarkB L := ⟨_, rfl⟩
        have HRM := Lib.hid hrm
        clear hrm
        go_upto_region 8 with (fail)
        go_cut [6] (fun c wx => c = .bool rm ∧ wr = wx)
        case first =>
          have hsh := remark_shape L
          rw [← HRM.out] at hsh
          clear HBB HN HLC HRM
          rcases hsh with ⟨hl, rfl⟩ | ⟨hl, hv⟩ | ⟨hl, hv⟩
          · rw [hl] at hz
            go_wp2
            go_meet
            exact ⟨rfl, rfl⟩
          · rw [hl] at hz
            have h0 : 0 < lb.size := by omega
            have e0 : (((lb[0]'h0).toNat : Int) == 99) = (L.getD 0 0 == 99) := by rw [HLAT.out 0 h0]; exact byte_beq _ 99
            generalize (L.getD 0 0 == 99) = b0 at *
            subst hv
            rcases rm with _ | _
            all_goals
              go_wp2
              go_meet
              exact ⟨rfl, rfl⟩
          · have h0 : 0 < lb.size := by omega
            have h1 : 1 < lb.size := by omega
            have e0 : (((lb[0]'h0).toNat : Int) == 99) = (L.getD 0 0 == 99) := by rw [HLAT.out 0 h0]; exact byte_beq _ 99
            have e1 : (((lb[1]'h1).toNat : Int) == 32) = (L.getD 1 0 == 32) := by rw [HLAT.out 1 h1]; exact byte_beq _ 32
            have e2 : (((lb[1]'h1).toNat : Int) == 9) = (L.getD 1 0 == 9) := by rw [HLAT.out 1 h1]; exact byte_beq _ 9
            have hne : ((L.length : Int) == 1) = false := by rw [beq_eq_false_iff_ne]; omega
            have g0 : decide (0 < L.length) = true := decide_eq_true (by omega)
            have g0' : decide (0 < (L.length : Int)) = true := decide_eq_true (by omega)
            have g1 : 1 < L.length := by omega
            have g1' : (1 : Int) < (L.length : Int) := by omega
            generalize (L.getD 0 0 == 99) = b0 at *
            generalize (L.getD 1 0 == 32) = b1 at *
            generalize (L.getD 1 0 == 9) = b2 at *
            subst hv
            rcases b0 with _ | _ <;> rcases b1 with _ | _ <;> rcases b2 with _ | _
            all_goals
              go_wp2
              go_meet
              exact ⟨rfl, rfl⟩
        case rest =>
          obtain ⟨rfl, rfl⟩ := hcut
          rcases rm with _ | _
          case true =>
            have hl : lineW L = [] := by unfold lineW; rw [← HRM.out]; rfl
            have HLW := Lib.hid hl
            clear hl
            go_wp2
            obtain ⟨wo, rfl⟩ : ∃ wo : World, wo = wr := ⟨_, rfl⟩
            go_loopw [3, 7, 8] (fun o a i wr => o = u3 ∧ i = .int .i64 0 ∧ wr = wo) (fun _ _ _ _ => 0)
            case atStart => exact ⟨rfl, rfl, rfl⟩
            case round =>
              obtain ⟨rfl, rfl, rfl⟩ := hrel
              have q0 : decide ((0 : Int) ≤ (L.length : Int)) = true := decide_eq_true (by omega)
              go_wp2
              go_roundw
              case rel =>
                have hh := HN.out ws (by rw [HLW.out]; simp)
                exact ⟨k + 1, ws, [], by go_num, by omega, rfl, HO.out, HB.out, by simp; omega, hh.1, hh.2⟩
              case measure => simp [intOf]; omega
          case false =>
            have hl : lineW L = goW [] L := by unfold lineW; rw [← HRM.out]; rfl
            have HLW := Lib.hid hl
            clear hl
            go_wp2
            obtain ⟨wo, rfl⟩ : ∃ wo : World, wo = wr := ⟨_, rfl⟩
            go_loopw [3, 7, 8] (fun o a i wr => WIn L w ws.length (ws ++ goW [] L) o a i wr) (fun _ _ i _ => L.length + 1 - (intOf i).toNat)
            case atStart => exact ⟨0, ws, [], rfl, Nat.zero_le _, rfl, HO.out, HB.out, by simp, by simp, fun _ => rfl, fun e => absurd e (by omega)⟩
            case round =>
              obtain ⟨k2, ws2, acc, rfl, hk2, rfl, hO2, hB2, hc2, hac2, hw21, hw22⟩ := hrel
              have HO2 := Lib.hid hO2
              have HB2 := Lib.hid hB2
              have HW21 := Lib.hid hw21
              have HW22 := Lib.hid hw22
              clear hO2 hB2 hw21 hw22
              by_cases hke2 : k2 = L.length + 1
              · have tk2 : decide (k2 ≤ L.length) = false := decide_eq_false (by omega)
                have tk2' : decide ((k2 : Int) ≤ (L.length : Int)) = false := decide_eq_false (by omega)
                have HKE := Lib.hid hke2
                clear hke2
                go_wp2
                go_roundw
                case rel =>
                  have hh := HN.out ws2 (by rw [HLW.out]; exact HW22.out HKE.out)
                  exact ⟨k + 1, ws2, [], by go_num, by omega, rfl, HO2.out, HB2.out, by have := HLC.out; have := HW22.out HKE.out; rw [this, List.length_append, ← HLW.out]; simp; omega, hh.1, hh.2⟩
                case measure => simp [intOf]; omega
              have tk2 : decide (k2 ≤ L.length) = true := decide_eq_true (by omega)
              have tk2' : decide ((k2 : Int) ≤ (L.length : Int)) = true := decide_eq_true (by omega)
              obtain ⟨b, hb⟩ : ∃ b : Bool, (b = true ∧ k2 < L.length ∧ blankB (L.getD k2 0) = false) ∨ (b = false ∧ k2 < L.length ∧ blankB (L.getD k2 0) = true) ∨ (b = false ∧ ¬ k2 < L.length) := by
                by_cases h1 : k2 < L.length
                · rcases hx : blankB (L.getD k2 0) with _ | _
                  · exact ⟨true, .inl ⟨rfl, h1, rfl⟩⟩
                  · exact ⟨false, .inr (.inl ⟨rfl, h1, rfl⟩)⟩
                · exact ⟨false, .inr (.inr ⟨rfl, h1⟩)⟩
              have HB3 := Lib.hid hb
              clear hb
              go_upto_region 13 with (fail)
              go_cut [81] (fun c wx => c = .bool b ∧ wr = wx)
              case first =>
                clear HN HBB
                rcases HB3.out with ⟨rfl, h1, hx⟩ | ⟨rfl, h1, hx⟩ | ⟨rfl, h1⟩
                · have t1 : decide (k2 < L.length) = true := decide_eq_true h1
                  have t1' : decide ((k2 : Int) < (L.length : Int)) = true := decide_eq_true (by omega)
                  have h1' : k2 < lb.size := by omega
                  unfold blankB at hx
                  rw [Bool.or_eq_false_iff] at hx
                  have px : (((lb[k2]'h1').toNat : Int) != 32) = true := by
                    have := ne_byte (L.getD k2 0) 32
                    rw [hx.1] at this
                    rw [HLAT.out k2 h1']; exact this
                  have py : (((lb[k2]'h1').toNat : Int) != 9) = true := by
                    have := ne_byte (L.getD k2 0) 9
                    rw [hx.2] at this
                    rw [HLAT.out k2 h1']; exact this
                  go_wp2
                  go_meet
                  exact ⟨rfl, rfl⟩
                · have t1 : decide (k2 < L.length) = true := decide_eq_true h1
                  have t1' : decide ((k2 : Int) < (L.length : Int)) = true := decide_eq_true (by omega)
                  have h1' : k2 < lb.size := by omega
                  unfold blankB at hx
                  rw [Bool.or_eq_true] at hx
                  rcases hx with hx | hx
                  · have px : (((lb[k2]'h1').toNat : Int) != 32) = false := by rw [HLAT.out k2 h1', eq_of_beq hx]; rfl
                    go_wp2
                    go_meet
                    exact ⟨rfl, rfl⟩
                  · have px : (((lb[k2]'h1').toNat : Int) != 32) = true := by rw [HLAT.out k2 h1', eq_of_beq hx]; rfl
                    have py : (((lb[k2]'h1').toNat : Int) != 9) = false := by rw [HLAT.out k2 h1', eq_of_beq hx]; rfl
                    go_wp2
                    go_meet
                    exact ⟨rfl, rfl⟩
                · have t1 : decide (k2 < L.length) = false := decide_eq_false h1
                  have t1' : decide ((k2 : Int) < (L.length : Int)) = false := decide_eq_false (by omega)
                  go_wp2
                  go_meet
                  exact ⟨rfl, rfl⟩
              case rest =>
                obtain ⟨rfl, rfl⟩ := hcut
                rcases b with _ | _
                case true =>
                  have h1 : k2 < L.length ∧ blankB (L.getD k2 0) = false := by
                    rcases HB3.out with ⟨_, h1, hx⟩ | ⟨h, _⟩ | ⟨h, _⟩
                    · exact ⟨h1, hx⟩
                    · cases h
                    · cases h
                  have p1 : k2 + 1 ≤ L.length := h1.1
                  have p2 : (k2 : Int) + 1 ≤ (L.length : Int) := by omega
                  have HX := Lib.hid h1
                  have HLX : Hid (lb.extract k2 (k2 + 1) = ⟨[L.getD k2 0].toArray⟩) := by rw [HLB.out]; exact ext_one L k2 h1.1
                  clear h1
                  go_wp2
                  go_roundw
                  case rel =>
                    refine ⟨k2 + 1, ws2, acc ++ [L.getD k2 0], by go_num, by omega, by rw [HLX.out, join_str], HO2.out, HB2.out, by simp; omega, by simp; omega, fun _ => ?_, fun e => absurd e (by omega)⟩
                    rw [← goW_step HX.out.1 HX.out.2]
                    exact HW21.out (by omega)
                  case measure => simp [intOf]; omega
                case false =>
                  have HM : Hid (∀ ws3, ws3 = ws2 ++ (if acc.isEmpty then [] else [acc]) → (k2 + 1 ≤ L.length → ws3 ++ goW [] (L.drop (k2 + 1)) = ws ++ goW [] L) ∧ (k2 + 1 = L.length + 1 → ws3 = ws ++ goW [] L)) := by
                    intro ws3 e
                    have hw := HW21.out (by omega)
                    rcases HB3.out with ⟨h, _⟩ | ⟨_, h1, hx⟩ | ⟨_, h1⟩
                    · cases h
                    · rw [goW_break h1 hx] at hw
                      exact ⟨fun _ => by rw [e, List.append_assoc]; exact hw, fun h => absurd h (by omega)⟩
                    · rw [goW_end h1] at hw
                      exact ⟨fun h => absurd h (by omega), fun _ => by rw [e]; exact hw⟩
                  rcases acc with _ | ⟨a0, at0⟩
                  · go_wp2
                    go_roundw
                    case rel =>
                      have hh := HM.out ws2 (by simp)
                      exact ⟨k2 + 1, ws2, [], by go_num, by omega, rfl, HO2.out, HB2.out, by simp at hc2 ⊢; omega, by simp, hh.1, hh.2⟩
                    case measure => simp [intOf]; omega
                  · have pe : ((⟨(a0 :: at0).toArray⟩ : ByteArray).toList == (⟨#[]⟩ : ByteArray).toList) = false := by
                      rw [Lib.toList_data, Lib.toList_data, list_mk]; rfl
                    have pe2 : (a0 :: at0).isEmpty = false := rfl
                    have hM := fun ws3 => HM.out ws3
                    have HMM : Hid (∀ ws3, ws3 = ws2 ++ [a0 :: at0] → (k2 + 1 ≤ L.length → ws3 ++ goW [] (L.drop (k2 + 1)) = ws ++ goW [] L) ∧ (k2 + 1 = L.length + 1 → ws3 = ws ++ goW [] L)) := hM
                    clear hM HM
                    simp only [List.length_cons] at hc2 hac2
                    generalize a0 :: at0 = acc at *
                    have hbz : w.heap.size ≤ wr.heap.size := HB2.out.size
                    obtain ⟨A2, c2, rfl⟩ := HO2.out.form
                    have hwl : ws2.length ≤ 9000 := by have := HLC.out; omega
                    go_wp2_with (at_builtin; refine wpList_append_own _ rfl _ _ 69 rfl w.heap.size 9 i0 (.string ⟨#[]⟩) 1 16 Tryz.underlying69 hi hz0 hz1 hz2 rfl (by decide) _ _ _ rfl (HO2.out.alloc _) ⟨wr.heap.size, 0, none⟩ 1 1 [.string ⟨acc.toArray⟩] rfl rfl one_cellS one_oneS (by unfold maxLen; omega) (by omega) (by simp; omega) ?_)
                    intro v2 w2 hown2 hgrow2 _
                    have hs2 := OwnS.snoc hown2
                    have hb2 : Below w.heap.size w w2 := below_grown (HB2.out.trans ((Below.refl _ _).alloc hbz _)) (by simp; omega) hgrow2 (fun k hk => (HO2.out.lt k hk).1)
                    have HS3 := Lib.hid hs2
                    have HB4 := Lib.hid hb2
                    clear hown2 hgrow2 hs2 hb2
                    go_wp2
                    go_roundw
                    case rel =>
                      have hh := HMM.out (ws2 ++ [acc]) rfl
                      exact ⟨k2 + 1, ws2 ++ [acc], [], by go_num, by omega, rfl, HS3.out, HB4.out, by simp; omega, by simp, hh.1, hh.2⟩
                    case measure => simp [intOf]; omega
end Go.Proofs.YtcfbnddoknpehaaGreatDoor
