/- The contract of lariatref05.All. The contracts of known and Now. The contract of lariatref05.Now: what follows of all that was decided. The contracts of lariatlaw05.reasoned and closed: behind a Propagate the engine says what follows. -/
import Derived.Test.YtdecejhobefefaaWrM
import Derived.Test.YtdecejhobefefaaWOpn
import Derived.Test.YtdecejhobefefaaFrsh
import Derived.Test.YtdecejhobefefaaClo
import Derived.Deep.RegionWith
import Derived.Deep.Slices
import Derived.Deep.Fields
import Derived.Lib.QuietBelow
import Derived.Test.YtdecejhobefefaaLrnD
namespace Go.Proofs.Ytdecejhobefefaa
open Go.RowKit LitM TrailM EngM

/-- Booleans as cells. -/
def blC (bs : List Bool) (j : Nat) : Value := .bool (bs.getD j false)
/-- What All leaves. -/
def AlTo (all : List (List Int)) (pres : List Bool) (w : World) (e : Ending) (w' : World) : Prop :=
  Below w.heap.size w w' ∧ ∃ A c, e = .returned (.slice A (alA all pres).length c) ∧ RdG w' A (alA all pres).length (alA all pres)
/-- Clauses told so far. -/
structure AlZ (w wr : World) (g c : Nat) (cs : List (List Int)) : Prop where
  row : ∃ f : Nat → Value, RowV 29 1 wr g cs.length c f ∧ ∀ i, i < cs.length → ∃ Aj cj, f i = .slice Aj (cs.getD i []).length cj ∧ (cs.getD i []).length ≤ cj ∧ cj ≤ 9223372036854775807 ∧ Rd .i32 w w.heap.size Aj (cs.getD i []).length (cs.getD i [])
set_option maxHeartbeats 6400000 in
set_option maxRecDepth 100000 in
theorem rall_any {A1 A2 A3 : Option Addr} {n n2 n3 c1 c2 c3 : Nat} {all : List (List Int)} {pres : List Bool} (w : World) (h : RdG w A1 all.length all) (hp : SlV 4 1 w A2 n2 c2 (blC pres)) (hn2 : n2 = all.length) (hok : ∀ c ∈ all, c.length ≤ 20 ∧ ∀ y ∈ c, LitM.one y = true) (hall : all.length ≤ 1000) :
    Calls Try.prog 82 #[.agg #[.int .i64 (n : Int), .slice A1 all.length c1, .slice A2 n2 c2, .slice A3 n3 c3]] w (AlTo all pres w) := by
  subst hn2
  obtain ⟨W0, hW0⟩ : ∃ W0, W0 = w.alloc (.cells #[.int .i64 (n : Int), .slice A1 all.length c1, .slice A2 all.length c2, .slice A3 n3 c3] 31) := ⟨_, rfl⟩
  have hB0 : Below w.heap.size w W0 := by rw [hW0]; exact (Below.refl _ _).alloc (Nat.le_refl _) _
  have hbox : W0.heap[w.heap.size]? = some (.cells #[.int .i64 (n : Int), .slice A1 all.length c1, .slice A2 all.length c2, .slice A3 n3 c3] 31 (0, 0)) := by rw [hW0]; exact blk_new w _
  have hs0 : W0.heap.size = w.heap.size + 1 := by rw [hW0]; simp
  have HK : Hid (∀ W, Below W0.heap.size W0 W → W.cell? ⟨w.heap.size, 1, none⟩ = some (.slice A1 all.length c1) ∧ W.cell? ⟨w.heap.size, 2, none⟩ = some (.slice A2 all.length c2)) := fun W hW => by
    have hb2 : W.heap[w.heap.size]? = some (.cells #[.int .i64 (n : Int), .slice A1 all.length c1, .slice A2 all.length c2, .slice A3 n3 c3] 31 (0, 0)) := by rw [hW.block _ (by omega)]; exact hbox
    exact ⟨by rw [Lib.cell_of_heap hb2]; rfl, by rw [Lib.cell_of_heap hb2]; rfl⟩
  have HRP : Hid (∀ W, Below W0.heap.size W0 W → SlV 4 1 W A2 all.length c2 (blC pres)) := fun W hW => (hp.below hB0).below hW
  have HRW := Lib.hid h.at_
  have HBW : Hid (∀ W, Below W0.heap.size W0 W → Below w.heap.size w W) := fun W hW => hB0.trans (hW.mono (by omega))
  have HSZ : Hid (w.heap.size ≤ W0.heap.size) := by unfold Hid; omega
  have HOK := Lib.hid hok
  have HWW : Hid (Below w.heap.size w W0) := hB0
  clear h hp hok hB0 hbox hs0
  go_enter Try.func82, Try.ntmps82
  go_upto_region 1 with (fail)
  rw [← hW0]
  clear hW0
  have HE : Hid (AlZ w (W0.alloc (.cells #[] 29)) W0.heap.size 0 (alT all pres 0)) := ⟨⟨fun _ => .int .i64 0, RowV.made (by simp [alT]) rfl (fun j hj => by simp [alT] at hj), fun i hi => by simp [alT] at hi⟩⟩
  have HB1 : Hid (Below W0.heap.size W0 (W0.alloc (.cells #[] 29))) := (Below.refl _ _).alloc (Nat.le_refl _) _
  have kk := HK.out _ HB1.out
  obtain ⟨kk1, kk2⟩ := kk
  obtain ⟨g0, hg0⟩ : ∃ g0, g0 = W0.heap.size := ⟨_, rfl⟩
  obtain ⟨w2, hw2⟩ : ∃ w2, w2 = W0.alloc (.cells #[] 29) := ⟨_, rfl⟩
  go_upto_region 2 with (fail)
  rw [← hw2, ← hg0]
  rw [← hw2] at kk1 kk2 HB1 HE
  rw [← hg0] at HE
  have HG0 : Hid (W0.heap.size ≤ g0) := Nat.le_of_eq hg0.symm
  clear hw2 hg0
  go_wp2_with fail
  go_loopw [3, 13] (fun ov iv wr => ∃ (j g c : Nat), ov = .slice (some ⟨g, 0, none⟩) (alT all pres j).length c ∧ iv = .int .i64 (j : Int) ∧ j ≤ all.length ∧ Hid (AlZ w wr g c (alT all pres j)) ∧ Hid (W0.heap.size ≤ g) ∧ Hid (Below W0.heap.size W0 wr)) (fun _ iv _ => all.length - (intOf iv).toNat)
  case atStart => exact ⟨0, g0, 0, rfl, rfl, by omega, HE, HG0, HB1⟩
  case round =>
    clear HE HG0 HB1 kk1 kk2
    obtain ⟨j, g, c, rfl, rfl, hj, hE, hG, hB⟩ := hrel
    by_cases hlt : j < all.length
    case neg =>
      have tj : decide (j < all.length) = false := decide_eq_false hlt
      have tj2 : decide ((j : Int) < (all.length : Int)) = false := decide_eq_false (by omega)
      obtain rfl : j = all.length := by omega
      have HRG2 : Hid (RdG wr (some ⟨g, 0, none⟩) (alA all pres).length (alA all pres)) := by
        obtain ⟨f, hr, hf⟩ := hE.out.row
        refine ⟨rfl, fun i hi => ?_⟩
        obtain ⟨Aj, cj, e1, e2, e3, e4⟩ := hf i hi
        refine ⟨g, 0, Aj, cj, rfl, ?_, e2, e3, (e4.below (HBW.out _ hB.out)).more (HBW.out _ hB.out).size⟩
        have := hr.cell (show i < (alT all pres all.length).length * 1 by rw [Nat.mul_one]; exact hi)
        rw [Nat.zero_add, this, e1]; rfl
      go_wp2_with fail
      go_ret
      exact ⟨HBW.out _ hB.out, _, _, rfl, HRG2.out⟩
    have tj : decide (j < all.length) = true := decide_eq_true hlt
    have tj2 : decide ((j : Int) < (all.length : Int)) = true := decide_eq_true (by omega)
    obtain ⟨b, o, Aj, cj, hA, hcw, h1, h2, hrd⟩ := HRW.out j hlt
    subst hA
    have hc : wr.cell? ⟨b, o + j, none⟩ = some (.slice Aj (all.getD j []).length cj) := ((HBW.out _ hB.out).cell (p := ⟨b, o + j, none⟩) (World.block_lt_of_cell? _ _ hcw)).trans hcw
    have HRJ : Hid ((all.getD j []).length ≤ cj ∧ cj ≤ 9223372036854775807 ∧ Rd .i32 w w.heap.size Aj (all.getD j []).length (all.getD j [])) := ⟨h1, h2, hrd⟩
    have hmem : all.getD j [] ∈ all := by rw [List.getD, List.getElem?_eq_getElem hlt]; exact List.getElem_mem hlt
    obtain ⟨o1, o2⟩ := HOK.out _ hmem
    have HCl := Lib.hid (rclean_yes Aj (all.getD j []).length cj (all.getD j []) wr ((hrd.below (HBW.out _ hB.out)).more (HBW.out _ hB.out).size) (by omega) (List.all_eq_true.2 o2))
    have hle := alT_len all pres j
    have HAS := Lib.hid (alT_succ all pres j)
    have HPC : Hid (∀ W, Below wr.heap.size wr W → ∃ gp, A2 = some ⟨gp, 0, none⟩ ∧ W.cell? ⟨gp, j, none⟩ = some (.bool (pres.getD j false)) ∧ all.length ≤ c2 ∧ c2 ≤ 9223372036854775807) := fun W hW => by
      have hB2 := hB.out.trans (hW.mono hB.out.size)
      obtain ⟨gp, e, hr⟩ := (HRP.out _ hB2).row (by omega)
      exact ⟨gp, e, hr.cell (show j < all.length * 1 by omega), hr.bd.1, hr.bd.2⟩
    obtain ⟨k1, k2⟩ := HK.out _ hB.out
    clear hcw h1 h2 hrd hmem o2
    have HBE : Hid (bothB (all.getD j []) = bothB (all.getD j [])) := rfl
    have HAB : Hid (alB all pres j = (pres.getD j false && !bothB (all.getD j []))) := rfl
    generalize all.getD j [] = cl at *
    generalize bothB cl = bo at *
    generalize alB all pres j = ab at *
    go_wp2_with fail
    refine HCl.out.mono ?_
    rintro e w4 ⟨v4, ys, rfl, _, _, hb4⟩
    obtain ⟨gp, rfl, hpc, hpl, hpl2⟩ := HPC.out _ hb4
    obtain ⟨k1', k2'⟩ := HK.out w4 (hB.out.trans (hb4.mono hB.out.size))
    have HB4 : Hid (Below W0.heap.size W0 w4) := hB.out.trans (hb4.mono hB.out.size)
    have HE4 : Hid (AlZ w w4 g c (alT all pres j)) := by
      obtain ⟨f, hr, hf⟩ := hE.out.row
      exact ⟨⟨f, hr.same (hb4.block g hr.lt), hf⟩⟩
    clear hb4 HCl HPC k1 k2 hE hc HBE
    generalize pres.getD j false = pj at *
    cases pj with
    | false =>
      have HAL : Hid (alT all pres (j + 1) = alT all pres j) := by
        have h1 := HAS.out
        have h2 := HAB.out
        rw [Bool.false_and] at h2
        unfold Hid
        rw [h1, h2]; rfl
      clear HAS HAB
      go_wp2_with fail
      go_roundw
      case rel => exact ⟨j + 1, g, c, by rw [HAL.out], by go_num, by omega, by rw [HAL.out]; exact HE4, hG, HB4⟩
      case measure => simp [intOf]; omega
    | true =>
      cases bo with
      | true =>
        have HAL : Hid (alT all pres (j + 1) = alT all pres j) := by
          have h1 := HAS.out
          have h2 := HAB.out
          rw [Bool.not_true, Bool.and_false] at h2
          unfold Hid
          rw [h1, h2]; rfl
        clear HAS HAB
        go_wp2_with fail
        go_roundw
        case rel => exact ⟨j + 1, g, c, by rw [HAL.out], by go_num, by omega, by rw [HAL.out]; exact HE4, hG, HB4⟩
        case measure => simp [intOf]; omega
      | false =>
        have HAL : Hid (alT all pres (j + 1) = alT all pres j ++ [cl]) := by
          have h1 := HAS.out
          have h2 := HAB.out
          rw [Bool.not_false, Bool.and_true] at h2
          unfold Hid
          rw [h1, h2]; rfl
        have HLL : Hid ((alT all pres j ++ [cl]).length = (alT all pres j).length + 1) := by unfold Hid; simp
        have HGD : Hid (∀ i, (alT all pres j ++ [cl]).getD i [] = if i < (alT all pres j).length then (alT all pres j).getD i [] else if i = (alT all pres j).length then cl else []) := fun i => by
          rw [List.getD, List.getD, List.getElem?_append]
          split
          · rfl
          · split
            · rename_i h; rw [h]; simp
            · rw [List.getElem?_eq_none (by simp; omega)]; rfl
        clear HAS HAB
        generalize alT all pres j = L at *
        obtain ⟨f, hr4, hf4⟩ := HE4.out.row
        have HF4 : Hid (SlV 29 1 w4 (some ⟨g, 0, none⟩) L.length c f) := .inr ⟨g, rfl, hr4⟩
        have HFF := Lib.hid hf4
        clear hr4 hf4 HE4
        go_wp2_with (at_builtin; refine wpList_append_sl _ rfl _ _ 27 29 rfl Try.underlying27 info_rrow rfl (by decide) (by decide) (some ⟨g, 0, none⟩) L.length c f rfl (SlV.alloc HF4.out _) (by omega) ⟨w4.heap.size, 0, none⟩ 1 1 [.slice Aj cl.length cj] rfl rfl (box_news w4 29 [.slice Aj cl.length cj]) (by intro u hu; simp at hu; subst hu; rfl) (by decide) (by decide) ?_)
        intro g' c7 w7 hr7 hg7 hk7
        have HG7 : Hid (W0.heap.size ≤ g') := by
          rcases hg7 with e | e
          · rw [onB_some] at e
            have e : g' = g := e
            rw [e]; exact hG.out
          · have h1 := HB4.out.size
            unfold Hid; omega
        have HB7 : Hid (Below W0.heap.size W0 w7) := by
          have h1 : Below W0.heap.size W0 (w4.alloc (.cells #[.slice Aj cl.length cj] 29)) := HB4.out.alloc HB4.out.size _
          exact h1.trans ((hk7 (fun i => onB (some ⟨g, 0, none⟩) i) (fun i hi => hi)).below h1.size (fun i hi => by
            rw [onB_some] at hi
            rw [hi]; exact hG.out))
        have HE7 : Hid (AlZ w w7 g' c7 (L ++ [cl])) := by
          refine ⟨⟨_, by rw [HLL.out]; exact hr7, fun i hi => ?_⟩⟩
          rw [HLL.out] at hi
          rw [HGD.out i]
          unfold appV
          by_cases e : i < L.length
          · rw [if_pos (by omega), if_pos e]; exact HFF.out i e
          · obtain rfl : i = L.length := by omega
            rw [if_neg (by omega), if_neg (by omega), if_pos rfl]
            exact ⟨Aj, cj, by simp, HRJ.out⟩
        clear hr7 hg7 hk7
        go_wp2_with fail
        go_roundw
        case rel => exact ⟨j + 1, g', c7, by rw [HAL.out, HLL.out], by go_num, by omega, by rw [HAL.out]; exact HE7, HG7, HB7⟩
        case measure => simp [intOf]; omega
end Go.Proofs.Ytdecejhobefefaa
namespace Go.Proofs.Ytdecejhobefefaa
open Go.RowKit LitM TrailM EngM

set_option maxHeartbeats 1600000 in
theorem known_any {w : World} {g n c : Nat} {V : Nat → Int} (h : RowV 3 1 w g n c (intV V)) (hn : n ≤ 1000) :
    Calls Try.prog 57 #[.slice (some ⟨g, 0, none⟩) n c] w fun e w' => e = .returned (.int .i64 (knV V n : Nat)) ∧ w = w' := by
  have HR := Lib.hid h
  obtain ⟨w0, hw0⟩ : ∃ w0 : World, w0 = w := ⟨_, rfl⟩
  rw [← hw0] at HR ⊢
  clear h hw0
  go_enter Try.func57, Try.ntmps57
  go_wp2_with fail
  go_loopw [3, 8] (fun nv iv wr => ∃ (j : Nat), nv = .int .i64 (knV V j : Nat) ∧ iv = .int .i64 (j : Int) ∧ j ≤ n ∧ wr = w0) (fun _ iv _ => n - (intOf iv).toNat)
  case atStart => exact ⟨0, rfl, rfl, by omega, rfl⟩
  case round =>
    obtain ⟨j, rfl, rfl, hj, rfl⟩ := hrel
    by_cases hlt : j < n
    case neg =>
      have tj : decide (j < n) = false := decide_eq_false hlt
      have tj2 : decide ((j : Int) < (n : Int)) = false := decide_eq_false (by omega)
      obtain rfl : j = n := by omega
      go_wp2_with fail
      go_ret
      exact ⟨rfl, rfl⟩
    have tj : decide (j < n) = true := decide_eq_true hlt
    have tj2 : decide ((j : Int) < (n : Int)) = true := decide_eq_true (by omega)
    have hc : wr.cell? ⟨g, j, none⟩ = some (.int .i64 (V j)) := HR.out.cell (show j < n * 1 by omega)
    have hbd := HR.out.bd
    obtain ⟨hbd1, hbd2⟩ := hbd
    have HS := Lib.hid (knV_succ V j)
    have hkl := knV_le V j
    by_cases hz : V j = 0
    · have tz : (V j != 0) = false := by simp [hz]
      have HS2 : Hid (knV V (j + 1) = knV V j) := by unfold Hid; rw [HS.out, if_pos hz]
      clear HS hz
      generalize V j = z at *
      generalize knV V j = kj at *
      go_wp2_with fail
      go_roundw
      case rel => exact ⟨j + 1, by rw [HS2.out], by go_num, by omega, by first | rfl | trivial⟩
      case measure => simp [intOf]; omega
    · have tz : (V j != 0) = true := by simpa using hz
      have HS2 : Hid (knV V (j + 1) = knV V j + 1) := by unfold Hid; rw [HS.out, if_neg hz]
      clear HS hz
      generalize V j = z at *
      generalize knV V j = kj at *
      go_wp2_with fail
      go_roundw
      case rel => exact ⟨j + 1, by rw [HS2.out]; go_num, by go_num, by omega, by first | rfl | trivial⟩
      case measure => simp [intOf]; omega
end Go.Proofs.Ytdecejhobefefaa
namespace Go.Proofs.Ytdecejhobefefaa
open Go.RowKit LitM TrailM EngM

theorem dec0_nil : Dec0 [] (fun _ => 0) := ⟨fun k => by show -1 ≤ (0 : Int) ∧ (0 : Int) ≤ 1; omega, rfl, by simp, fun y _ h => by unfold valV at h; split at h <;> simp at h⟩
theorem dec0_skip {ds : List Int} {V : Nat → Int} {l : Int} (h : Dec0 ds V) (h1 : LitM.one l = true) (hn : -l ∉ ds) (h0 : valV V l ≠ 0) : Dec0 (ds ++ [l]) V := by
  have ho := (one_iff l).1 h1
  have hb := val_bd h.bd l
  have hl : valV V l = 1 := by
    by_cases e : valV V l = 1
    · exact e
    · exact absurd (h.only (-l) (one_neg h1) (by rw [valV_neg (by omega)]; omega)) hn
  refine ⟨h.bd, h.z, fun y hy => ?_, fun y hy hv => List.mem_append_left _ (h.only y hy hv)⟩
  rcases List.mem_append.1 hy with e | e
  · exact h.yes y e
  · rw [List.mem_singleton.1 e]; exact hl
theorem dec0_set {ds : List Int} {V : Nat → Int} {l : Int} (h : Dec0 ds V) (h1 : LitM.one l = true) (h0 : valV V l = 0) : Dec0 (ds ++ [l]) (setV V l) := by
  have ho := (one_iff l).1 h1
  refine ⟨fun k => ?_, ?_, fun y hy => ?_, fun y hy hv => ?_⟩
  · have := h.bd k
    unfold setV
    split <;> split <;> omega
  · rw [← h.z]
    unfold setV
    split <;> rw [if_neg (by omega)]
  · rcases List.mem_append.1 hy with e | e
    · have hy1 := h.yes y e
      refine setV_keep (fun e2 => ?_) hy1
      rw [e2, valV_neg (by omega)] at hy1; omega
    · rw [List.mem_singleton.1 e]; exact setV_same
  · rcases setV_val hv with e | e
    · rw [e]; simp
    · exact List.mem_append_left _ (h.only y hy e)
/-- What Now leaves. -/
def NowTo (n : Nat) (all : List (List Int)) (pres : List Bool) (dec : List Int) (w : World) (e : Ending) (w' : World) : Prop :=
  Below w.heap.size w w' ∧ ∃ V0 V fl g c, e = .returned (.tuple #[.slice (some ⟨g, 0, none⟩) (n + 1) c, .bool fl]) ∧ RowV 3 1 w' g (n + 1) c (intV V) ∧ Dec0 dec V0 ∧ Clo (alA all pres) V0 V ∧ (fl = true → ∃ c ∈ alA all pres, ∀ y ∈ c, valV V y = -1) ∧ (fl = false → ∀ c ∈ alA all pres, Quiet V c)
set_option maxHeartbeats 6400000 in
set_option maxRecDepth 100000 in
theorem now_any {A1 A2 A3 : Option Addr} {n n2 n3 c1 c2 c3 : Nat} {all : List (List Int)} {pres : List Bool} {dec : List Int} (w : World) (h : RdG w A1 all.length all) (hp : SlV 4 1 w A2 n2 c2 (blC pres)) (hn2 : n2 = all.length) (hok : ∀ c ∈ all, c.length ≤ 20 ∧ ∀ y ∈ c, LitM.one y = true ∧ varZ y ≤ (n : Int)) (hall : all.length ≤ 1000)
    (hd : Rd .i32 w w.heap.size A3 n3 dec) (hdo : ∀ y ∈ dec, LitM.one y = true ∧ varZ y ≤ (n : Int) ∧ -y ∉ dec) (hn : n ≤ 500) (hn3 : n3 ≤ 100000) :
    Calls Try.prog 55 #[.agg #[.int .i64 (n : Int), .slice A1 all.length c1, .slice A2 n2 c2, .slice A3 n3 c3]] w (NowTo n all pres dec w) := by
  obtain ⟨W0, hW0⟩ : ∃ W0, W0 = w.alloc (.cells #[.int .i64 (n : Int), .slice A1 all.length c1, .slice A2 n2 c2, .slice A3 n3 c3] 31) := ⟨_, rfl⟩
  have hB0 : Below w.heap.size w W0 := by rw [hW0]; exact (Below.refl _ _).alloc (Nat.le_refl _) _
  have hbox : W0.heap[w.heap.size]? = some (.cells #[.int .i64 (n : Int), .slice A1 all.length c1, .slice A2 n2 c2, .slice A3 n3 c3] 31 (0, 0)) := by rw [hW0]; exact blk_new w _
  have hs0 : W0.heap.size = w.heap.size + 1 := by rw [hW0]; simp
  have HK : Hid (∀ W, Below W0.heap.size W0 W → W.cell? ⟨w.heap.size, 0, none⟩ = some (.int .i64 (n : Int)) ∧ W.cell? ⟨w.heap.size, 1, none⟩ = some (.slice A1 all.length c1) ∧ W.cell? ⟨w.heap.size, 2, none⟩ = some (.slice A2 n2 c2) ∧ W.cell? ⟨w.heap.size, 3, none⟩ = some (.slice A3 n3 c3)) := fun W hW => by
    have hb2 : W.heap[w.heap.size]? = some (.cells #[.int .i64 (n : Int), .slice A1 all.length c1, .slice A2 n2 c2, .slice A3 n3 c3] 31 (0, 0)) := by rw [hW.block _ (by omega)]; exact hbox
    exact ⟨by rw [Lib.cell_of_heap hb2]; rfl, by rw [Lib.cell_of_heap hb2]; rfl, by rw [Lib.cell_of_heap hb2]; rfl, by rw [Lib.cell_of_heap hb2]; rfl⟩
  have HBW : Hid (∀ W, Below W0.heap.size W0 W → Below w.heap.size w W) := fun W hW => hB0.trans (hW.mono (by omega))
  have HRD : Hid (∀ W, Below W0.heap.size W0 W → Rd .i32 W w.heap.size A3 n3 dec) := fun W hW => hd.below (HBW.out W hW)
  have HAll : Hid (∀ W, Below W0.heap.size W0 W → Calls Try.prog 82 #[.agg #[.int .i64 (n : Int), .slice A1 all.length c1, .slice A2 n2 c2, .slice A3 n3 c3]] W (AlTo all pres W)) := fun W hW =>
    rall_any W (h.below (HBW.out W hW)) (hp.below (HBW.out W hW)) hn2 (fun c hc => ⟨(hok c hc).1, fun y hy => ((hok c hc).2 y hy).1⟩) hall
  have HAO : Hid (∀ c ∈ alA all pres, c.length ≤ 100000 ∧ ∀ y ∈ c, LitM.one y = true ∧ varZ y < ((n + 1 : Nat) : Int)) := fun c hc => by
    unfold alA alT at hc
    obtain ⟨i, hi, rfl⟩ := List.mem_map.1 hc
    have hi := List.mem_range.1 (List.mem_filter.1 hi).1
    have := hok (all.getD i []) (by rw [List.getD, List.getElem?_eq_getElem hi]; exact List.getElem_mem hi)
    exact ⟨by omega, fun y hy => ⟨(this.2 y hy).1, by have := (this.2 y hy).2; omega⟩⟩
  have HAL : Hid ((alA all pres).length ≤ 100000) := by have := alT_len all pres all.length; unfold Hid alA; omega
  have HDO := Lib.hid hdo
  have HDL := Lib.hid hd.len
  obtain ⟨C, x1, x2, hmk⟩ := make_sl (P := Try.prog) 72 3 Try.underlying72 info_tint rfl (by decide) (by decide) (n + 1) (by omega)
  have hm' : ∀ w : World, (Instr.makeSlice 72 (.int .i64 ((n : Int) + 1)) (.int .i64 ((n : Int) + 1))).run Try.prog w = .ok (.slice (some ⟨w.heap.size, 0, none⟩) (n + 1) (n + 1)) (w.alloc (.cells C 3)) := by
    intro w
    have := hmk w
    rw [show (((n + 1 : Nat)) : Int) = (n : Int) + 1 by omega] at this
    exact this
  have HV0 : Hid (RowV 3 1 (W0.alloc (.cells C 3)) W0.heap.size (n + 1) (n + 1) (intV fun _ => 0)) := RowV.made (by omega) x1 (fun j hj => by rw [x2 j hj]; simp [Nat.mod_one]; rfl)
  have HB1 : Hid (Below W0.heap.size W0 (W0.alloc (.cells C 3))) := (Below.refl _ _).alloc (Nat.le_refl _) _
  have kk := HK.out W0 (Below.refl _ _)
  obtain ⟨kk0, _, _, _⟩ := kk
  clear hmk x1 x2 h hp hok hd hdo hB0 hbox hs0 hn2
  go_enter Try.func55, Try.ntmps55
  go_upto_region 1 with (fail)
  rw [← hW0]
  clear hW0
  obtain ⟨kk3, kk4, kk5, kk6⟩ := HK.out _ HB1.out
  obtain ⟨g0, hg0⟩ : ∃ g0, g0 = W0.heap.size := ⟨_, rfl⟩
  obtain ⟨w2, hw2⟩ : ∃ w2, w2 = W0.alloc (.cells C 3) := ⟨_, rfl⟩
  go_upto_region 2 with (fail)
  rw [← hw2, ← hg0]
  rw [← hw2] at kk3 kk4 kk5 kk6 HB1 HV0
  rw [← hg0] at HV0
  clear hw2 hg0 kk0 kk4 kk5 hm'
  have HD0 : Hid (Dec0 (dec.take 0) (fun _ => 0)) := dec0_nil
  go_wp2_with fail
  go_loopw [4, 14] (fun vv iv wr => ∃ (j g c : Nat) (V : Nat → Int), vv = .slice (some ⟨g, 0, none⟩) (n + 1) c ∧ iv = .int .i64 (j : Int) ∧ j ≤ n3 ∧ Hid (RowV 3 1 wr g (n + 1) c (intV V)) ∧ Hid (Dec0 (dec.take j) V) ∧ Hid (Below W0.heap.size W0 wr)) (fun _ iv _ => n3 - (intOf iv).toNat)
  case atStart => exact ⟨0, g0, n + 1, fun _ => 0, rfl, rfl, by omega, HV0, HD0, HB1⟩
  case round =>
    clear HV0 HD0 HB1 kk3 kk6
    obtain ⟨j, g, c, V, rfl, rfl, hj, hR, hD, hB⟩ := hrel
    by_cases hlt : j < n3
    case neg =>
      have tj : decide (j < n3) = false := decide_eq_false hlt
      have tj2 : decide ((j : Int) < (n3 : Int)) = false := decide_eq_false (by omega)
      have hfull : dec.take j = dec := List.take_of_length_le (by have := HDL.out; omega)
      rw [hfull] at hD
      obtain ⟨k0, k1, k2, k3⟩ := HK.out _ hB.out
      have HA := Lib.hid (HAll.out _ hB.out)
      clear hfull
      go_wp2_with fail
      refine HA.out.mono ?_
      rintro e w4 ⟨hb4, A4, c4, rfl, hr4⟩
      have HB4 : Hid (Below W0.heap.size W0 w4) := hB.out.trans (hb4.mono hB.out.size)
      have HC := Lib.hid (close_any (hR.out.same (hb4.block g hR.out.lt)) hD.out.bd (by omega) hr4 HAO.out HAL.out (c2 := c4))
      clear hb4 hr4 hR HA k0 k1 k2 k3
      go_wp2_with fail
      refine HC.out.mono ?_
      rintro e w5 ⟨hb5, g5, c5, V5, fl, rfl, hr5, hcl, hf1, hf2⟩
      have HB5 : Hid (Below W0.heap.size W0 w5) := HB4.out.trans (hb5.mono HB4.out.size)
      have HR5 := Lib.hid hr5
      have HCl := Lib.hid hcl
      have HF1 := Lib.hid hf1
      have HF2 := Lib.hid hf2
      clear hb5 hr5 hcl hf1 hf2 HC
      go_wp2_with fail
      go_ret2
      exact ⟨HBW.out _ HB5.out, V, V5, fl, g5, c5, rfl, HR5.out, hD.out, HCl.out, HF1.out, HF2.out⟩
    have tj : decide (j < n3) = true := decide_eq_true hlt
    have tj2 : decide ((j : Int) < (n3 : Int)) = true := decide_eq_true (by omega)
    obtain ⟨gx, o, rfl, hgb, hcm⟩ := (HRD.out _ hB.out).get hlt
    have hxj : dec[j]? = some (dec.getD j 0) := by
      have := HDL.out
      rw [List.getD, List.getElem?_eq_getElem (by omega)]; rfl
    obtain ⟨o1, o2, o3⟩ := HDO.out _ (List.mem_of_getElem? hxj)
    have HTK : Hid (dec.take (j + 1) = dec.take j ++ [dec.getD j 0]) := by unfold Hid; rw [List.take_add_one, hxj]; rfl
    have HNI : Hid (-(dec.getD j 0) ∉ dec.take j) := fun e => o3 (List.mem_of_mem_take e)
    clear hxj o3
    generalize dec.getD j 0 = l at *
    have HOf := Lib.hid (of_c hR.out hD.out.bd l o1 (by omega) (by omega))
    by_cases h0 : valV V l = 0
    · have t0 : (valV V l == 0) = true := by simpa using h0
      have HD2 : Hid (Dec0 (dec.take (j + 1)) (setV V l)) := by unfold Hid; rw [HTK.out]; exact dec0_set hD.out o1 h0
      have HW := Lib.hid (with_any hR.out l o1 (by omega) (by omega))
      clear HTK HNI hD h0
      generalize valV V l = z at *
      go_wp2_with fail
      refine HOf.out.mono ?_
      rintro e w' ⟨rfl, rfl⟩
      go_wp2_with fail
      refine HW.out.mono ?_
      rintro e w6 ⟨g6, c6, rfl, hr6, _, hb6⟩
      have HR6 := Lib.hid hr6
      have HB6 : Hid (Below W0.heap.size W0 w6) := hB.out.trans (hb6.mono hB.out.size)
      clear hr6 hb6 HW HOf hR hB hcm
      go_wp2_with fail
      go_roundw
      case rel => exact ⟨j + 1, g6, c6, setV V l, rfl, by go_num, by omega, HR6, HD2, HB6⟩
      case measure => simp [intOf]; omega
    · have t0 : (valV V l == 0) = false := by simpa using h0
      have HD2 : Hid (Dec0 (dec.take (j + 1)) V) := by unfold Hid; rw [HTK.out]; exact dec0_skip hD.out o1 HNI.out h0
      clear HTK HNI hD h0
      generalize valV V l = z at *
      go_wp2_with fail
      refine HOf.out.mono ?_
      rintro e w' ⟨rfl, rfl⟩
      go_wp2_with fail
      go_roundw
      case rel => exact ⟨j + 1, g, c, V, by first | rfl | trivial, by go_num, by omega, hR, HD2, hB⟩
      case measure => simp [intOf]; omega
end Go.Proofs.Ytdecejhobefefaa
namespace Go.Proofs.Ytdecejhobefefaa
open Go.RowKit LitM TrailM EngM

/-- A reason's clause: the literal itself is true, all others are false, and not later. -/
theorem reason_all {S : Eng} (hI : Inv S) {v : Int} (h0 : 0 ≤ reaZ S.L v) : thereB S (reaZ S.L v) = true ∧ ∃ i0, i0 < (clsL S (reaZ S.L v)).length ∧ ∀ j, j < (clsL S (reaZ S.L v)).length → (j = i0 → varZ ((clsL S (reaZ S.L v)).getD j 0) = v ∧ valZ S.L ((clsL S (reaZ S.L v)).getD j 0) = 1) ∧ (j ≠ i0 → varZ ((clsL S (reaZ S.L v)).getD j 0) ≠ v ∧ valZ S.L ((clsL S (reaZ S.L v)).getD j 0) = -1 ∧ lvl S ((clsL S (reaZ S.L v)).getD j 0) ≤ levZ S.L v) := by
  have ht : thereB S (reaZ S.L v) = true := by rw [(rea_there hI v).1]; exact decide_eq_true h0
  refine ⟨ht, ?_⟩
  unfold reaZ at h0
  cases hf : findE S.L v with
  | none => rw [hf] at h0; dsimp only at h0; omega
  | some x =>
    rw [hf] at h0
    dsimp only at h0
    have hr : reaZ S.L v = x.rs := by unfold reaZ; rw [hf]
    have hlv : levZ S.L v = (x.lv : Int) := by unfold levZ; rw [hf]
    rw [hr, hlv]
    rw [hr] at ht
    obtain ⟨hx, hv⟩ := findE_some hf
    obtain ⟨k, hk, hkx⟩ := List.getElem_of_mem hx
    have hkk : S.L[k]? = some x := by rw [List.getElem?_eq_getElem hk, hkx]
    obtain ⟨r, q1, q2, q3, q4, q5⟩ := hI.i8 k x hkk h0
    have hcl : clsL S x.rs = (clA S.cs r).ls := by unfold clsL; rw [if_pos ht, q1]; rfl
    rw [hcl]
    obtain ⟨i0, hi0, e0⟩ := List.getElem_of_mem q4
    refine ⟨i0, hi0, fun j hj => ⟨fun e => ?_, fun e => ?_⟩⟩
    · subst e
      rw [List.getD, List.getElem?_eq_getElem hj]
      show varZ (clA S.cs r).ls[j] = v ∧ valZ S.L (clA S.cs r).ls[j] = 1
      rw [e0]
      exact ⟨hv, (val_one hI.pre).2 ⟨x, hx, rfl⟩⟩
    · rw [List.getD, List.getElem?_eq_getElem hj]
      show varZ (clA S.cs r).ls[j] ≠ v ∧ valZ S.L (clA S.cs r).ls[j] = -1 ∧ lvl S (clA S.cs r).ls[j] ≤ _
      have hne : (clA S.cs r).ls[j] ≠ x.l := fun e2 => by
        rw [← e0] at e2
        have hnd := hI.nd r q2
        rcases Nat.lt_trichotomy j i0 with a | a | a
        · exact List.pairwise_iff_getElem.1 hnd j i0 hj hi0 a e2
        · exact e a
        · exact List.pairwise_iff_getElem.1 hnd i0 j hi0 hj a e2.symm
      have hyo := (hI.ls q2 _ (List.getElem_mem hj)).1
      obtain ⟨z, hz, ez⟩ := q5 _ (List.getElem_mem hj) hne
      obtain ⟨i, hi, hzi⟩ := get_take hz
      have hzL : z ∈ S.L := List.mem_of_getElem? hzi
      have hvz : varZ z.l = varZ (clA S.cs r).ls[j] := by rw [ez]; exact var_neg hyo
      refine ⟨fun e2 => ?_, (val_neg hI.pre hyo).2 ⟨z, hzL, ez⟩, ?_⟩
      · have := tr_once hI.pre hzi hkk (by rw [hvz, e2, hv])
        omega
      · have hfz := hI.pre.find hzL
        rw [hvz] at hfz
        unfold lvl levZ
        rw [hfz]
        have := lv_mono hI.pre hzi hkk (by omega)
        dsimp only
        omega
set_option maxHeartbeats 6400000 in
set_option maxRecDepth 100000 in
theorem reasoned_any {B b : Nat} {w0 w : World} {S : Eng} {q : Pm} (h : Sg B w0 w b S q) (v : Int) :
    Calls Try.prog 56 #[.pointer (some ⟨b, 0, none⟩), .int .i64 v] w fun e w' => e = .returned (.bool true) ∧ Below w.heap.size w w' := by
  have hI := h.inv
  have HS := Lib.hid h
  obtain ⟨a0, _, _, aR, _, _⟩ := h.asks
  have HR := Lib.hid (aR v)
  have HRA := Lib.hid (fun h0 => reason_all (S := S) hI (v := v) h0)
  have HCl := Lib.hid (clause_u h.eng hI.small (reaZ S.L v))
  obtain ⟨hxo, hxl⟩ := clsL_ok hI (reaZ S.L v)
  have HXO := Lib.hid hxo
  have HB0 : Hid (Below w.heap.size w w) := Below.refl _ _
  clear h hI aR hxo
  generalize reaZ S.L v = r at *
  generalize clsL S r = ls at *
  generalize thereB S r = th at *
  by_cases h0 : 0 ≤ r
  case neg =>
    have t0 : decide (r < 0) = true := decide_eq_true (by omega)
    clear HRA HCl
    go_enter Try.func56, Try.ntmps56
    go_wp2_with fail
    refine HR.out.mono ?_
    rintro e w' ⟨rfl, rfl⟩
    go_wp2_with fail
    go_ret
    exact ⟨rfl, HB0.out⟩
  have t0 : decide (r < 0) = false := decide_eq_false (by omega)
  obtain ⟨rfl, i0, hi0, hall⟩ := HRA.out h0
  have HALL := Lib.hid hall
  clear HRA hall
  go_enter Try.func56, Try.ntmps56
  go_wp2_with fail
  refine HR.out.mono ?_
  rintro e w' ⟨rfl, rfl⟩
  go_wp2_with fail
  refine HCl.out.mono ?_
  rintro e w4 ⟨Ac, cc, rfl, hsl, hon, hb4⟩
  have HS4 := Lib.hid (HS.out.below hb4)
  have HSL := Lib.hid hsl
  have HBW : Hid (∀ W, Below w4.heap.size w4 W → Below w.heap.size w W) := fun W hW => hb4.trans (hW.mono hb4.size)
  have HB4 : Hid (Below w4.heap.size w4 w4) := Below.refl _ _
  clear hsl hon hb4 HCl HS HR HB0
  go_wp2_with fail
  go_loopw [8, 27] (fun mv iv wr => ∃ (j many : Nat), mv = .int .i64 (many : Int) ∧ iv = .int .i64 (j : Int) ∧ j ≤ ls.length ∧ many = (if i0 < j then 1 else 0) ∧ Hid (Below w4.heap.size w4 wr)) (fun _ iv _ => ls.length - (intOf iv).toNat)
  case atStart => exact ⟨0, 0, rfl, rfl, by omega, rfl, HB4⟩
  case round =>
    clear HB4
    obtain ⟨j, many, rfl, rfl, hj, hmany, hB⟩ := hrel
    by_cases hlt : j < ls.length
    case neg =>
      have tj : decide (j < ls.length) = false := decide_eq_false hlt
      have tj2 : decide ((j : Int) < (ls.length : Int)) = false := decide_eq_false (by omega)
      obtain rfl : many = 1 := by rw [hmany, if_pos (by omega)]
      clear hmany
      go_wp2_with fail
      go_ret
      exact ⟨rfl, HBW.out _ hB.out⟩
    have tj : decide (j < ls.length) = true := decide_eq_true hlt
    have tj2 : decide ((j : Int) < (ls.length : Int)) = true := decide_eq_true (by omega)
    obtain ⟨gx, hA, hrow⟩ := (HSL.out.below hB.out).row (by omega)
    subst hA
    have hcm : wr.cell? ⟨gx, j, none⟩ = some (.int .i32 (ls.getD j 0)) := hrow.cell (show j < ls.length * 1 by omega)
    have hbd := hrow.bd
    obtain ⟨hbd1, hbd2⟩ := hbd
    have hmem : ls.getD j 0 ∈ ls := by rw [List.getD, List.getElem?_eq_getElem hlt]; exact List.getElem_mem hlt
    have ho := (one_iff _).1 (HXO.out _ hmem).1
    obtain ⟨p1, p2⟩ := HALL.out j hlt
    have P1 := Lib.hid p1
    have P2 := Lib.hid p2
    have HLD : Hid (lvl S (ls.getD j 0) = levZ S.L (varZ (ls.getD j 0))) := rfl
    have HS5 := Lib.hid (HS4.out.below hB.out)
    have c5 := HS5.out.eng.h0
    have hmo : many ≤ 1 := by rw [hmany]; split <;> omega
    have HMM := Lib.hid hmany
    clear hrow hmem p1 p2 hmany
    generalize ls.getD j 0 = l at *
    have HV : Hid (∀ V : World, Calls Try.prog 33 #[.int .i32 l] V fun e w' => e = .returned (.int .i64 (varZ l)) ∧ w' = V) := fun V => (rvar_any l V (by omega) (by omega)).mono fun e w' ⟨h1, h2⟩ => ⟨h1, h2.symm⟩
    have HVl : Hid (∀ r, Calls Try.prog 17 #[.pointer (some ⟨q.bt, 0, none⟩), .int .i32 l] (wr.drewN r) fun e w' => e = .returned (.int .i64 (valZ S.L l)) ∧ w' = wr.drewN r) := fun r =>
      ((HS5.out.below (w' := wr.drewN r) ⟨rfl, rfl, rfl, Nat.le_refl _, fun _ _ => rfl⟩).asks.2.1 l (by omega) (by omega)).mono fun e w' ⟨h1, h2⟩ => ⟨h1, h2.symm⟩
    have HV0 : Hid (Calls Try.prog 17 #[.pointer (some ⟨q.bt, 0, none⟩), .int .i32 l] wr fun e w' => e = .returned (.int .i64 (valZ S.L l)) ∧ wr = w') := HS5.out.asks.2.1 l (by omega) (by omega)
    have HLv : Hid (∀ r z, Calls Try.prog 32 #[.pointer (some ⟨q.bt, 0, none⟩), .int .i64 z] (wr.drewN r) fun e w' => e = .returned (.int .i64 (levZ S.L z)) ∧ w' = wr.drewN r) := fun r z =>
      ((HS5.out.below (w' := wr.drewN r) ⟨rfl, rfl, rfl, Nat.le_refl _, fun _ _ => rfl⟩).asks.2.2.1 z).mono fun e w' ⟨h1, h2⟩ => ⟨h1, h2.symm⟩
    generalize valZ S.L l = vl at *
    generalize varZ l = vv at *
    by_cases hji : j = i0
    · obtain ⟨rfl, rfl⟩ := P1.out hji
      obtain rfl : many = 0 := by rw [HMM.out, if_neg (by omega)]
      have HM2 : Hid (1 = (if i0 < j + 1 then 1 else 0)) := by unfold Hid; rw [if_pos (by omega)]
      clear P1 P2 HMM hji
      go_wp2_with fail
      refine (HV.out _).mono ?_
      rintro e w' ⟨rfl, rfl⟩
      go_wp2_with fail
      refine HV0.out.mono ?_
      rintro e w' ⟨rfl, rfl⟩
      go_wp2_with fail
      go_roundw
      case rel => exact ⟨j + 1, 1, by first | rfl | trivial | go_num, by go_num, by omega, HM2.out, hB⟩
      case measure => simp [intOf]; omega
    · obtain ⟨n1, rfl, n3⟩ := P2.out hji
      have tv : (vv == v) = false := by rw [beq_eq_false_iff_ne]; exact n1
      rw [HLD.out] at n3
      have tl : decide (levZ S.L v < levZ S.L vv) = false := decide_eq_false (by omega)
      have HM2 : Hid (many = (if i0 < j + 1 then 1 else 0)) := by
        unfold Hid
        rw [HMM.out]
        by_cases e : i0 < j
        · rw [if_pos e, if_pos (by omega)]
        · rw [if_neg e, if_neg (by omega)]
      have HBD : Hid (∀ r, Below w4.heap.size w4 (wr.drewN r)) := fun r => below_drewN hB.out r
      clear P1 P2 HMM n1 n3 HLD
      go_wp2_with fail
      refine (HV.out _).mono ?_
      rintro e w' ⟨rfl, rfl⟩
      go_upto_region 13 with (fail)
      go_quiet (first | (go_at_call 33; exact Calls.quiet_of_same (HV.out _)) | (go_at_call 17; exact Calls.quiet_of_same (HVl.out _)) | (go_at_call 32; exact Calls.quiet_of_same (HLv.out _ _)))
      go_wp2_with fail
      go_roundw
      case rel => exact ⟨j + 1, many, by first | rfl | trivial, by go_num, by omega, HM2.out, HBD.out _⟩
      case measure => simp [intOf]; omega
/-- What a Propagate leaves: nothing is open, or a conflict. -/
def Done (S : Eng) (id : Int) : Prop := (id = -1 ∧ S.vi = S.L.length ∧ S.lo = []) ∨ Conf S id
set_option maxHeartbeats 12800000 in
set_option maxRecDepth 100000 in
theorem closed_any {B b : Nat} {w0 w : World} {S : Eng} {q : Pm} (h : Sg B w0 w b S q) {A1 A2 A3 : Option Addr} {n2 n3 c1 c2 c3 : Nat} {all : List (List Int)} {pres : List Bool} {dec : List Int} (hrec : Rec S all pres dec) (hg : RdG w A1 all.length all) (hp : SlV 4 1 w A2 n2 c2 (blC pres)) (hn2 : n2 = all.length) (hall : all.length ≤ 1000)
    (hd : Rd .i32 w w.heap.size A3 n3 dec) (hn3 : n3 ≤ 100000) (hn : S.n ≤ 500) {id : Int} (hdn : Done S id) :
    Calls Try.prog 20 #[.pointer (some ⟨b, 0, none⟩), .agg #[.int .i64 (S.n : Int), .slice A1 all.length c1, .slice A2 n2 c2, .slice A3 n3 c3], .int .i64 id] w fun e w' => e = .returned (.bool true) ∧ Below w.heap.size w w' := by
  subst hn2
  have hI := h.inv
  obtain ⟨W0, hW0⟩ : ∃ W0, W0 = w.alloc (.cells #[.int .i64 (S.n : Int), .slice A1 all.length c1, .slice A2 all.length c2, .slice A3 n3 c3] 31) := ⟨_, rfl⟩
  have hB0 : Below w.heap.size w W0 := by rw [hW0]; exact (Below.refl _ _).alloc (Nat.le_refl _) _
  have hbox : W0.heap[w.heap.size]? = some (.cells #[.int .i64 (S.n : Int), .slice A1 all.length c1, .slice A2 all.length c2, .slice A3 n3 c3] 31 (0, 0)) := by rw [hW0]; exact blk_new w _
  have hs0 : W0.heap.size = w.heap.size + 1 := by rw [hW0]; simp
  have HK : Hid (∀ W, Below W0.heap.size W0 W → W.cell? ⟨w.heap.size, 0, none⟩ = some (.int .i64 (S.n : Int)) ∧ W.cell? ⟨w.heap.size, 1, none⟩ = some (.slice A1 all.length c1) ∧ W.cell? ⟨w.heap.size, 2, none⟩ = some (.slice A2 all.length c2) ∧ W.cell? ⟨w.heap.size, 3, none⟩ = some (.slice A3 n3 c3)) := fun W hW => by
    have hb2 : W.heap[w.heap.size]? = some (.cells #[.int .i64 (S.n : Int), .slice A1 all.length c1, .slice A2 all.length c2, .slice A3 n3 c3] 31 (0, 0)) := by rw [hW.block _ (by omega)]; exact hbox
    exact ⟨by rw [Lib.cell_of_heap hb2]; rfl, by rw [Lib.cell_of_heap hb2]; rfl, by rw [Lib.cell_of_heap hb2]; rfl, by rw [Lib.cell_of_heap hb2]; rfl⟩
  have HBW : Hid (∀ W, Below W0.heap.size W0 W → Below w.heap.size w W) := fun W hW => hB0.trans (hW.mono (by omega))
  have HSW : Hid (∀ W, Below W0.heap.size W0 W → Sg B w0 W b S q) := fun W hW => h.below (HBW.out W hW)
  have hcon : ∀ y ∈ dec, LitM.one y = true ∧ varZ y ≤ (S.n : Int) ∧ -y ∉ dec := fun y hy => by
    obtain ⟨a, b⟩ := hrec.lit hI.pre hy
    exact ⟨a, b, fun hm => tr_both hI.pre a (hrec.tr hy) (hrec.tr hm)⟩
  have hls1 : all.length ≤ S.cs.length := Nat.le_of_eq hrec.al
  have hls2 : S.cs.length ≤ all.length := Nat.le_of_eq hrec.al.symm
  have HNow : Hid (Calls Try.prog 55 #[.agg #[.int .i64 (S.n : Int), .slice A1 all.length c1, .slice A2 all.length c2, .slice A3 n3 c3]] W0 (NowTo S.n all pres dec W0)) :=
    now_any W0 (hg.below hB0) (hp.below hB0) rfl hrec.ok hall ((hd.below hB0).more hB0.size) hcon hn hn3
  have HRP : Hid (∀ W, Below W0.heap.size W0 W → SlV 4 1 W A2 all.length c2 (blC pres)) := fun W hW => hp.below (HBW.out W hW)
  have HREC := Lib.hid hrec
  have HI := Lib.hid hI
  have HDN := Lib.hid hdn
  have HB1 : Hid (Below W0.heap.size W0 W0) := Below.refl _ _
  obtain ⟨k0, k1, k2, k3⟩ := HK.out _ HB1.out
  clear hrec hg hp hd hB0 hbox hs0 hcon hI h hdn
  go_enter Try.func20, Try.ntmps20
  go_upto_region 1 with (fail)
  rw [← hW0]
  clear hW0
  go_wp2_with fail
  refine HNow.out.mono ?_
  rintro e w4 ⟨hb4, V0, V, fl, g, c, rfl, hrow, hd0, hclo, hf1, hf2⟩
  obtain ⟨N1, hN1⟩ : ∃ N1, N1 = S.n + 1 := ⟨_, rfl⟩
  rw [← hN1] at hrow ⊢
  have hN2 : N1 ≤ S.n + 1 := by omega
  have hN3 : S.n + 1 ≤ N1 := by omega
  have HN1 := Lib.hid hN1
  clear hN1
  have HB4 := Lib.hid hb4
  have HD0 := Lib.hid hd0
  have HCLO := Lib.hid hclo
  have HROW := Lib.hid hrow
  have HF1 := Lib.hid hf1
  have HF2 := Lib.hid hf2
  obtain ⟨k0', k1', k2', k3'⟩ := HK.out _ hb4
  clear hb4 hd0 hclo hrow hf1 hf2 k0 k1 k2 k3 HNow HB1
  rcases HDN.out with ⟨hid, hvi, hlo⟩ | hconf
  · subst hid
    have hfl : fl = false := by
      cases fl with
      | false => rfl
      | true => exact (done_no HI.out HREC.out HD0.out HCLO.out hvi hlo (HF1.out rfl)).elim
    subst hfl
    have HVAL : Hid (∀ y, LitM.one y = true → valZ S.L y = valV V y) := fun y hy => done_val HI.out HREC.out HD0.out HCLO.out (HF2.out rfl) hvi hlo hy
    have HKN := Lib.hid (done_known HI.out HREC.out HD0.out HCLO.out (HF2.out rfl) hvi hlo)
    rw [← HN1.out] at HKN
    have HVI : Hid (Done S (-1)) := .inl ⟨rfl, hvi, hlo⟩
    clear HF1 HF2 hvi hlo k1' k2' k3'
    go_wp2_with fail
    go_loopw [13] (fun iv wr => ∃ (x : Nat), iv = .int .i64 (x : Int) ∧ 1 ≤ x ∧ x ≤ S.n + 1 ∧ Hid (Below w4.heap.size w4 wr)) (fun iv _ => S.n + 1 - (intOf iv).toNat)
    case atStart => exact ⟨1, rfl, by omega, by omega, Lib.hid (Below.refl _ _)⟩
    case round =>
      obtain ⟨x, rfl, hx1, hx2, hB⟩ := hrel
      have HBx : Hid (Below W0.heap.size W0 wr) := HB4.out.trans (hB.out.mono HB4.out.size)
      obtain ⟨k0, _, _, _⟩ := HK.out _ HBx.out
      have HSx := Lib.hid (HSW.out _ HBx.out)
      by_cases hlt : x ≤ S.n
      case neg =>
        have tx : decide ((x : Int) ≤ (S.n : Int)) = false := decide_eq_false (by omega)
        have tx2 : decide (x ≤ S.n) = false := decide_eq_false hlt
        have HTr := Lib.hid HSx.out.true_
        have HRW : Hid (∀ W, Below wr.heap.size wr W → RowV 3 1 W g N1 c (intV V)) := fun W hW => (HROW.out.same (hB.out.block g HROW.out.lt)).same (hW.block g (Nat.lt_of_lt_of_le HROW.out.lt hB.out.size))
        go_wp2_with fail
        refine HTr.out.mono ?_
        rintro e w6 ⟨rfl, _, hb6⟩
        have HKno := Lib.hid (known_any (HRW.out _ hb6) (by omega))
        have HB6 : Hid (Below w.heap.size w w6) := HBW.out _ (HBx.out.trans (hb6.mono HBx.out.size))
        rw [HKN.out] at HKno
        clear hb6 HTr
        go_wp2_with fail
        refine HKno.out.mono ?_
        rintro e w' ⟨rfl, rfl⟩
        go_wp2_with fail
        go_ret
        exact ⟨rfl, HB6.out⟩
      have tx : decide ((x : Int) ≤ (S.n : Int)) = true := decide_eq_true (by omega)
      have tx2 : decide (x ≤ S.n) = true := decide_eq_true hlt
      have hn2 := HI.out.small.n
      obtain ⟨p1, p2⟩ := pos_one hx1 (by omega)
      have hval := HVAL.out _ p1
      have hvx : valV V (x : Int) = V x := by unfold valV; rw [if_neg (by omega)]; rfl
      rw [hvx] at hval
      have HVx : Hid (∀ d os, Calls Try.prog 17 #[.pointer (some ⟨q.bt, 0, none⟩), .int .i32 (x : Int)] (Go.Sort.grow (redrawn wr d) os) fun e w' => e = .returned (.int .i64 (V x)) ∧ ∃ p : Regrown, w' = Go.Sort.grow (redrawn wr p.d) p.os) := fun d os => by
        have h := (HSx.out.below (below_regrown wr d os)).asks.2.1 (x : Int) (by omega) (by omega)
        rw [hval] at h
        exact Calls.regrown_of (h.mono fun e w' ⟨h1, h2⟩ => ⟨h1, by rw [← h2]; exact Below.refl _ _⟩)
      have HRs : Hid (∀ d os, Calls Try.prog 56 #[.pointer (some ⟨b, 0, none⟩), .int .i64 (x : Int)] (Go.Sort.grow (redrawn wr d) os) fun e w' => e = .returned (.bool true) ∧ ∃ p : Regrown, w' = Go.Sort.grow (redrawn wr p.d) p.os) := fun d os =>
        Calls.regrown_of (reasoned_any (HSx.out.below (below_regrown wr d os)) (x : Int))
      have hcv : wr.cell? ⟨g, x, none⟩ = some (.int .i64 (V x)) := (HROW.out.same (hB.out.block g HROW.out.lt)).cell (show x < N1 * 1 by omega)
      have b6 := cell_regrown HSx.out.eng.h0
      have v6 := cell_regrown hcv
      have hbd := HROW.out.bd
      obtain ⟨hbd1, hbd2⟩ := hbd
      have hxn : x < N1 := by omega
      have hwx : IntKind.i32.wrap (x : Int) = (x : Int) := by rw [IntKind.wrap_i32]; omega
      have HBN : Hid (∀ W, Below wr.heap.size wr W → Below w4.heap.size w4 W) := fun W hW => hB.out.trans (hW.mono hB.out.size)
      clear hcv hval hvx p1 p2
      generalize V x = vx at *
      go_upto_region 18 with (fail)
      refine wp_region_quiet_below (by kernel_rfl) (by kernel_rfl) ?_
      repeat (quiet_step (first | (go_at_call 17; exact HVx.out _ _) | (go_at_call 56; exact HRs.out _ _)))
      refine wpQuiet_nil ?_
      intro w9 hw'
      have hb9 : Below wr.heap.size wr w9 := by
        obtain ⟨⟨dq, osq⟩, hw''⟩ := hw'
        rw [hw'']; exact below_regrown wr dq osq
      have HB9 := Lib.hid (HBN.out _ hb9)
      clear hw' hb9 HVx HRs b6 v6 HBN hB HBx k0 HSx
      go_wp2_with fail
      go_roundw
      case rel => exact ⟨x + 1, by go_num, by omega, by omega, HB9⟩
      case measure => simp [intOf]; omega
  · have hfl : fl = true := by
      cases fl with
      | true => rfl
      | false => exact (conf_no HI.out HREC.out HD0.out HCLO.out hconf (HF2.out rfl)).elim
    subst hfl
    obtain ⟨i, rfl, hi, hpr, hf⟩ := hconf
    have hth : thereB S (i : Int) = true := by
      unfold thereB
      simp only [Bool.and_eq_true, decide_eq_true_eq]
      exact ⟨⟨by omega, by omega⟩, hpr⟩
    have hcl : clsL S (i : Int) = (clA S.cs i).ls := by unfold clsL; rw [if_pos hth]; rfl
    have HFA : Hid (∀ y ∈ clsL S (i : Int), LitM.one y = true ∧ valZ S.L y = -1) := fun y hy => by
      rw [hcl] at hy
      have ho := (HI.out.ls hi y hy).1
      exact ⟨ho, (val_neg HI.out.pre ho).2 (hf y hy)⟩
    have hpi : pres.getD i false = true := by rw [HREC.out.pr i hi]; exact hpr
    have HCl := Lib.hid (clause_u (HSW.out _ HB4.out).eng HI.out.small (i : Int))
    rw [hth] at HCl
    obtain ⟨_, hxl⟩ := clsL_ok HI.out (i : Int)
    obtain ⟨gp, hA2, hrp⟩ := (HRP.out _ HB4.out).row (by omega)
    subst hA2
    have HPC : Hid (∀ W, Below w4.heap.size w4 W → W.cell? ⟨gp, i, none⟩ = some (.bool true)) := fun W hW => by
      have := (hrp.same (hW.block gp hrp.lt)).cell (show i < all.length * 1 by omega)
      unfold blC at this
      rw [hpi] at this; exact this
    have hbd := hrp.bd
    obtain ⟨hbd1, hbd2⟩ := hbd
    have t1 : decide ((all.length : Int) ≤ (i : Int)) = false := decide_eq_false (by omega)
    have t2 : decide (all.length ≤ i) = false := decide_eq_false (by omega)
    have hil : i < all.length := by omega
    clear HF1 HF2 hrp hf hpr hth hcl hpi
    generalize clsL S (i : Int) = ls at *
    go_wp2_with fail
    refine HCl.out.mono ?_
    rintro e w5 ⟨Ac, cc, rfl, hsl, hon, hb5⟩
    have HSL := Lib.hid hsl
    have HB5 : Hid (Below W0.heap.size W0 w5) := HB4.out.trans (hb5.mono HB4.out.size)
    have hpc := HPC.out _ hb5
    obtain ⟨k0, k1, k2, k3⟩ := HK.out _ HB5.out
    have HS5 := Lib.hid (HSW.out _ HB5.out)
    have c5 := HS5.out.eng.h0
    clear hsl hon hb5 HCl k0' k1' k2' k3'
    go_wp2_with fail
    go_loopw [50] (fun iv wr => ∃ (j : Nat), iv = .int .i64 (j : Int) ∧ j ≤ ls.length ∧ wr = w5) (fun iv _ => ls.length - (intOf iv).toNat)
    case atStart => exact ⟨0, rfl, by omega, rfl⟩
    case round =>
      obtain ⟨j, rfl, hj, rfl⟩ := hrel
      by_cases hlt : j < ls.length
      case neg =>
        have tj : decide (j < ls.length) = false := decide_eq_false hlt
        have tj2 : decide ((j : Int) < (ls.length : Int)) = false := decide_eq_false (by omega)
        go_wp2_with fail
        go_ret
        exact ⟨rfl, HBW.out _ HB5.out⟩
      have tj : decide (j < ls.length) = true := decide_eq_true hlt
      have tj2 : decide ((j : Int) < (ls.length : Int)) = true := decide_eq_true (by omega)
      obtain ⟨gx, hA, hrow⟩ := HSL.out.row (by omega)
      subst hA
      have hcm : wr.cell? ⟨gx, j, none⟩ = some (.int .i32 (ls.getD j 0)) := hrow.cell (show j < ls.length * 1 by omega)
      have hbd := hrow.bd
      obtain ⟨hbd3, hbd4⟩ := hbd
      have hmem : ls.getD j 0 ∈ ls := by rw [List.getD, List.getElem?_eq_getElem hlt]; exact List.getElem_mem hlt
      obtain ⟨o1, o2⟩ := HFA.out _ hmem
      have ho := (one_iff _).1 o1
      have HV0 := Lib.hid (HS5.out.asks.2.1 (ls.getD j 0) (by omega) (by omega))
      rw [o2] at HV0
      clear hrow hmem o1 o2
      generalize ls.getD j 0 = l at *
      go_wp2_with fail
      refine HV0.out.mono ?_
      rintro e w' ⟨rfl, rfl⟩
      go_wp2_with fail
      go_roundw
      case rel => exact ⟨j + 1, by go_num, by omega, by first | rfl | trivial⟩
      case measure => simp [intOf]; omega
end Go.Proofs.Ytdecejhobefefaa
