/- The operations on numbers: widen, Equal, Choose. -/
import Derived.Test.YtelpoocgmflofaaVecG
namespace Go.Proofs.Ytelpoocgmflofaa
open Go.RowKit GatM VecM

/-- What widen answers. -/
def WidTo (w : World) (l : List Nat) (m : Nat) (e : Ending) (w' : World) : Prop :=
  ∃ g, e = .returned (.slice (some ⟨g, 0, none⟩) m m) ∧ RowV 25 1 w' g m m (fun j => .int .u32 ((atL l j : Nat) : Int)) ∧ Below w.heap.size w w' ∧ w.heap.size ≤ g
def widF (l : List Nat) (k j : Nat) : Value := .int .u32 ((if j < k then atL l j else 0 : Nat) : Int)
theorem widF_step (l : List Nat) (k j : Nat) : widF l (k + 1) j = updV (widF l k) k (.int .u32 ((atL l k : Nat) : Int)) j := by
  unfold updV
  by_cases e : j = k
  · rw [if_pos e, e]
    unfold widF
    rw [if_pos (by omega)]
  · rw [if_neg e]
    unfold widF
    by_cases h : j < k
    · rw [if_pos h, if_pos (by omega)]
    · rw [if_neg h, if_neg (by omega)]
set_option maxHeartbeats 1600000 in
set_option maxRecDepth 100000 in
theorem vwiden_any {w : World} {c : GrC} {A : Option Addr} {n cn : Nat} {l : List Nat} (hl : VcAt w c A n l) (hn : n ≤ 1000) (m : Nat) (hm : m ≤ 100) : Calls Try.prog 37 #[.slice A n cn, .int .i64 (m : Int)] w (WidTo w l m) := by
  obtain ⟨C, hC1, hC2, hmk⟩ := make_vec m (by omega)
  have hmk0 := hmk w
  have hb0 : Below w.heap.size w (w.alloc (.cells C 25)) := (Below.refl _ _).alloc (Nat.le_refl _) _
  have H0 : Hid (RowV 25 1 (w.alloc (.cells C 25)) w.heap.size m m (widF l 0) ∧ Below w.heap.size w (w.alloc (.cells C 25))) := ⟨RowV.made (by omega) hC1 fun j hj => by rw [hC2 j hj]; unfold widF; rw [if_neg (by omega)]; rfl, hb0⟩
  have HL := Lib.hid hl
  clear hC1 hC2 hmk hb0 hl
  go_enter Try.func37, Try.ntmps37
  go_wp2_with fail
  go_loopw [11] (fun i wr => ∃ k : Nat, i = .int .i64 (k : Int) ∧ k ≤ m ∧ Hid (RowV 25 1 wr w.heap.size m m (widF l k) ∧ Below w.heap.size w wr)) (fun i _ => m - (intOf i).toNat)
  case atStart => exact ⟨0, rfl, Nat.zero_le _, H0⟩
  case round =>
    clear H0
    obtain ⟨k, rfl, hk, HO⟩ := hrel
    by_cases hlt : k < m
    · have tk : decide ((k : Int) < (m : Int)) = true := decide_eq_true (by omega)
      have tk2 : decide (k < m) = true := decide_eq_true hlt
      have tk3 : decide ((m : Int) ≤ (k : Int)) = false := decide_eq_false (by omega)
      have HA := Lib.hid (vat_any cn (HL.out.below HO.out.2) hn k)
      have x0 : wr.cell? ⟨w.heap.size, k, none⟩ = some (.int .u32 0) := by
        rw [HO.out.1.cell (show k < m * 1 by omega)]; unfold widF; rw [if_neg (by omega)]; rfl
      have x1 := HO.out.1.free k
      have HN : Hid (RowV 25 1 (wr.setCell ⟨w.heap.size, k, none⟩ (.int .u32 ((atL l k : Nat) : Int))) w.heap.size m m (widF l (k + 1)) ∧ Below w.heap.size w (wr.setCell ⟨w.heap.size, k, none⟩ (.int .u32 ((atL l k : Nat) : Int)))) :=
        ⟨(HO.out.1.set (show k < m * 1 by omega) _).congr fun j _ => widF_step l k j, HO.out.2.setCell (Nat.le_refl _) _⟩
      clear HO
      generalize atL l k = x at *
      go_wp2_with fail
      refine HA.out.mono ?_
      rintro e w' ⟨rfl, rfl⟩
      go_wp2_with fail
      go_roundw
      case rel => exact ⟨k + 1, by go_num, by omega, HN⟩
      case measure => simp [intOf]; omega
    · have tk : decide ((k : Int) < (m : Int)) = false := decide_eq_false (by omega)
      have tk2 : decide (k < m) = false := decide_eq_false hlt
      obtain rfl : k = m := by omega
      have HE : Hid (WidTo w l k (.returned (.slice (some ⟨w.heap.size, 0, none⟩) k k)) wr) := ⟨_, rfl, HO.out.1.congr fun j hj => by unfold widF; rw [if_pos (by omega)], HO.out.2, Nat.le_refl _⟩
      clear HO
      go_wp2_with fail
      go_ret
      exact HE.out
section
variable {B : Nat} {w0 w : World} {c : GrC} {gs : Gs}
/-- make of so many edges, as a plain list. -/
theorem make_edges (n : Nat) (hn : n ≤ 1000) : ∃ C : Array Value, C.size = n * 1 ∧ (∀ j, j < n * 1 → C[j]? = some (.int .u32 0)) ∧ ∀ w : World, (Instr.makeSlice 26 (.int .i64 (n : Int)) (.int .i64 (n : Int))).run Try.prog w = .ok (.slice (some ⟨w.heap.size, 0, none⟩) n n) (w.alloc (.cells C 25)) := by
  obtain ⟨C, h1, h2, h3⟩ := make_sl (P := Try.prog) 26 25 Try.underlying26 info_vec rfl (by decide) (by decide) n (by omega)
  refine ⟨C, h1, fun j hj => ?_, h3⟩
  rw [h2 j hj]
  have : j % 1 = 0 := Nat.mod_one j
  rw [this]; rfl
theorem eq_val {vals : List Bool} {la lb : List Nat} {M : Nat} (hM : 0 < M) (ha : la.length ≤ M) (hb : lb.length ≤ M) : (List.range M).all (fun i => bitE vals gs la i == bitE vals gs lb i) = decide (valE vals gs la = valE vals gs lb) := by
  obtain ⟨j, rfl⟩ : ∃ j, M = j + 1 := ⟨M - 1, by omega⟩
  rw [← valE_at (vals := vals) (gs := gs) ha, ← valE_at (vals := vals) (gs := gs) hb, Bool.eq_iff_iff, List.all_eq_true, decide_eq_true_iff]
  constructor
  · intro h
    exact nB_congr (by omega) fun i hi => by simpa using h i (List.mem_range.2 hi)
  · intro h i hi
    have := nB_inj h i (List.mem_range.1 hi)
    simpa using this
theorem all_getD {α : Type} {p : α → Bool} {q : Nat → Bool} (d : α) : ∀ (l : List α), (∀ i, i < l.length → p (l.getD i d) = q i) → l.all p = (List.range l.length).all q := fun l h => by
  rw [Bool.eq_iff_iff, List.all_eq_true, List.all_eq_true]
  constructor
  · intro hp i hi
    have hi := List.mem_range.1 hi
    rw [← h i hi]
    rw [List.getD, List.getElem?_eq_getElem hi]
    exact hp _ (List.getElem_mem hi)
  · intro hq x hx
    obtain ⟨i, hi, rfl⟩ := List.getElem_of_mem hx
    have := hq i (List.mem_range.2 hi)
    rw [← h i hi, List.getD, List.getElem?_eq_getElem hi] at this
    exact this
set_option maxHeartbeats 1600000 in
set_option maxRecDepth 100000 in
theorem vequal_any (h : LvG B w0 w c gs) {A D : Option Addr} {n m cn cm : Nat} {la lb : List Nat} (hla : VcAt w c A n la) (hlb : VcAt w c D m lb) (hia : AllIn gs la) (hib : AllIn gs lb) (hn : n ≤ 32) (hm : m ≤ 32) (hg : gs.length ≤ 60000) :
    Calls Try.prog 16 #[.pointer (some ⟨c.bg, 0, none⟩), .slice A n cn, .slice D m cm] w (Edge2To B w0 w c gs 160 (Cst la ∧ Cst lb) fun vals => decide (valE vals gs la = valE vals gs lb)) := by
  have hpa := hla.pos
  have hpb := hlb.pos
  have hlna := hla.len
  have hlnb := hlb.len
  obtain ⟨M, hM⟩ : ∃ M, M = max n m := ⟨_, rfl⟩
  have hMM : max (n : Int) (m : Int) = (M : Int) := by omega
  have hM1 : 1 ≤ M ∧ M ≤ 32 ∧ n ≤ M ∧ m ≤ M := by omega
  have HBG := Lib.hid (vbeg2 h hla hlb hia hib (cn := cn) (cm := cm) hn hm (by omega) M ⟨by omega, by omega⟩)
  obtain ⟨C, hC1, hC2, hmk⟩ := make_edges M (by omega)
  have HG := Lib.hid h
  have HA := Lib.hid hla
  have HD := Lib.hid hlb
  have HIA : Hid (∀ i, atL la i / 2 < gs.length ∧ (Cst la → atL la i < 2)) := fun i => ⟨hia _ (atL_mem (by omega) i), fun q => q.at_ (by omega) i⟩
  have HIB : Hid (∀ i, atL lb i / 2 < gs.length ∧ (Cst lb → atL lb i < 2)) := fun i => ⟨hib _ (atL_mem (by omega) i), fun q => q.at_ (by omega) i⟩
  have HN := Lib.hid hg
  have HC := Lib.hid (And.intro hC1 hC2)
  clear h hla hlb hia hib hg hM hC1 hC2 hn hm
  go_enter Try.func16, Try.ntmps16
  go_wp2_with fail
  refine HBG.out.mono ?_
  rintro e w1 ⟨b, rfl, hb, hmk1⟩
  have hmk0 := hmk w1
  have hg1 := HG.out.below hb
  have H0 : Hid (OutAt B w0 w1 c w1.heap.size M [] (w1.alloc (.cells C 25)) c gs ∧ ResK gs gs [] 0 (4 * 0) (Cst la ∧ Cst lb) (fun vals i => bitE vals gs la i == bitE vals gs lb i)) := ⟨OutAt.start hg1 (by omega) HC.out.1 HC.out.2, ResK.nil hg1.wf⟩
  have HM := Lib.hid hmk1
  have HW := Lib.hid hb
  have HBB := Lib.hid hg1.hB
  have HA1 := Lib.hid (HA.out.below hb)
  have HD1 := Lib.hid (HD.out.below hb)
  clear hmk hmk1 hb hg1 HBG HC HA HD HG
  go_wp2_with fail
  go_loopw [34] (fun i wr => ∃ (k : Nat) (o : List Nat) (ck : GrC) (gk : Gs), i = .int .i64 (k : Int) ∧ k ≤ M ∧ Hid (OutAt B w0 w1 c w1.heap.size M o wr ck gk ∧ ResK gs gk o k (4 * k) (Cst la ∧ Cst lb) (fun vals i => bitE vals gs la i == bitE vals gs lb i))) (fun i _ => M - (intOf i).toNat)
  case atStart => exact ⟨0, [], c, gs, rfl, Nat.zero_le _, H0⟩
  case round =>
    obtain ⟨k, o, ck, gk, rfl, hk, HO⟩ := hrel
    clear H0
    by_cases hlt : k < M
    · have tk : decide ((k : Int) < (M : Int)) = true := decide_eq_true (by omega)
      have tk2 : decide (k < M) = true := decide_eq_true hlt
      have tk3 : decide ((M : Int) ≤ (k : Int)) = false := decide_eq_false (by omega)
      obtain ⟨ho1, ho2⟩ := HO.out
      have HA2 := Lib.hid (vat_any cn (HA1.out.to ho1.tr) (by omega) k)
      have HB2 := Lib.hid (vat_any cm (HD1.out.to ho1.tr) (by omega) k)
      have HC := Lib.hid (vsame_any ho1.tr.lv (HM.out.to ho1.tr) (atL la k) (atL lb k) (ho2.up (HIA.out _).1) (ho2.up (HIB.out _).1) (by have := HN.out; have := ho2.len; omega))
      have HS : Hid (∀ w3 r g3 c3, Res gk g3 r 4 (atL la k < 2 ∧ atL lb k < 2) (fun vals => sayE vals gk (atL la k) == sayE vals gk (atL lb k)) → LvTo B w0 wr w3 ck c3 g3 → w3.cell? ⟨w1.heap.size, k, none⟩ = some (.int .u32 0) ∧ w3.frozen? ⟨w1.heap.size, k, none⟩ = false ∧ Hid (OutAt B w0 w1 c w1.heap.size M (o ++ [r]) (w3.setCell ⟨w1.heap.size, k, none⟩ (.int .u32 (r : Int))) c3 g3 ∧ ResK gs g3 (o ++ [r]) (k + 1) (4 * (k + 1)) (Cst la ∧ Cst lb) (fun vals i => bitE vals gs la i == bitE vals gs lb i))) := fun w3 r g3 c3 h1 h2 => by
        have := ho1.put HBB.out h2 (by rw [ho2.ll]; exact hlt) r
        rw [ho2.ll] at this
        refine ⟨this.1, this.2.1, this.2.2, ho2.snoc h1 (fun q => ⟨(HIA.out _).2 q.1, (HIB.out _).2 q.2⟩) fun vals => ?_⟩
        rw [say_ex ho2.ex (HIA.out _).1, say_ex ho2.ex (HIB.out _).1]
        rfl
      clear ho1 ho2 HO
      generalize atL la k = x at *
      generalize atL lb k = y at *
      go_wp2_with fail
      refine HA2.out.mono ?_
      rintro e w' ⟨rfl, rfl⟩
      go_wp2_with fail
      refine HB2.out.mono ?_
      rintro e w' ⟨rfl, rfl⟩
      go_wp2_with fail
      refine HC.out.mono ?_
      rintro e w3 ⟨r, g3, c3, rfl, h1, h2⟩
      obtain ⟨d1, d2, HN2⟩ := HS.out w3 r g3 c3 h1 h2
      clear h1 h2 HS HC HA2 HB2
      go_wp2_with fail
      go_roundw
      case rel => exact ⟨k + 1, o ++ [r], c3, g3, by go_num, by omega, HN2⟩
      case measure => simp [intOf]; omega
    · have tk : decide ((k : Int) < (M : Int)) = false := decide_eq_false (by omega)
      have tk2 : decide (k < M) = false := decide_eq_false hlt
      obtain rfl : k = M := by omega
      obtain ⟨ho1, ho2⟩ := HO.out
      have HAN := Lib.hid (vand_any ho1.tr.lv (HM.out.to ho1.tr) (cn := k) (ho1.vc (by omega) ho2.ll) ho2.inn (by have := HN.out; have := ho2.len; omega))
      have HF : Hid (∀ w3, ∀ r gs' c', Res gk gs' r o.length (Cst o) (fun vals => o.all (sayE vals gk)) → LvTo B w0 wr w3 ck c' gs' → VMk w3 c' b ∧ Hid (Edge2To B w0 w c gs 160 (Cst la ∧ Cst lb) (fun vals => decide (valE vals gs la = valE vals gs lb)) (.returned (.tuple #[.int .u32 (r : Int), .int .i64 0])) w3)) := fun w3 r gs' c' hr hT => by
        have hT1 := ho1.tr.trans hT
        refine ⟨HM.out.to hT1, _, rfl, EdgeTo.pre HW.out ⟨r, gs', c', rfl, ⟨hr.wf, ho2.ex.trans hr.ex, hr.lt, by have := hr.len; have := ho2.len; have := ho2.ll; omega, fun q => ?_, fun vals => ?_⟩, hT1⟩⟩
        · obtain ⟨a1, b1⟩ := ho2.cst q
          obtain ⟨a2, b2⟩ := hr.cst b1
          exact ⟨a2.trans a1, b2⟩
        · rw [hr.say, ← eq_val (M := k) (by omega) (by omega) (by omega), all_getD 0 o (q := fun i => bitE vals gs la i == bitE vals gs lb i) (fun i hi => ho2.say vals i (by rw [← ho2.ll]; exact hi)), ho2.ll]
      clear ho1 ho2 HO HM
      go_wp2_with fail
      refine HAN.out.mono ?_
      rintro e w3 ⟨r, g3, c3, rfl, h1, h2⟩
      obtain ⟨hm3, HE⟩ := HF.out w3 r g3 c3 h1 h2
      have HV := Lib.hid (vedge_any hm3 (.int .u32 (r : Int)))
      clear h1 h2 HF HAN hm3
      go_wp2_with fail
      refine HV.out.mono ?_
      rintro e w4 ⟨rfl, rfl⟩
      go_wp2_with fail
      go_ret2
      exact HE.out
/-- Of a bit and two numbers with nothing wrong. -/
theorem vbeg3 (h : LvG B w0 w c gs) {A D E : Option Addr} {n m q cn cm cq : Nat} {la lb lc : List Nat} (hla : VcAt w c A n la) (hlb : VcAt w c D m lb) (hlc : VcAt w c E q lc) (hia : AllIn gs la) (hib : AllIn gs lb) (hic : AllIn gs lc) (hn : n ≤ 32) (hm : m ≤ 32) (hq : q ≤ 32) (hg : gs.length ≤ 80000) (wd : Nat) (hw : fitN wd) :
    Calls Try.prog 33 #[.pointer (some ⟨c.bg, 0, none⟩), .int .i64 (wd : Int), .slice (some ⟨w.heap.size, 0, none⟩) 3 3] (w.alloc (.cells #[.slice A n cn, .slice D m cm, .slice E q cq] 27)) fun e w' => ∃ b, e = .returned (.tuple #[.pointer (some ⟨b, 0, none⟩), .int .i64 0]) ∧ Below w.heap.size w w' ∧ VMk w' c b := by
  have hb : Below w.heap.size w (w.alloc (.cells #[.slice A n cn, .slice D m cm, .slice E q cq] 27)) := (Below.refl _ _).alloc (Nat.le_refl _) _
  have c3 : ∀ {P : Nat → Prop}, P 0 → P 1 → P 2 → ∀ j, j < 3 → P j := fun h0 h1 h2 j hj => by
    rcases (show j = 0 ∨ j = 1 ∨ j = 2 by omega) with e | e | e <;> subst e <;> assumption
  have hpa := hla.pos
  have hpb := hlb.pos
  have hpc := hlc.pos
  refine (vbegin_any (h.at_.below hb) wd 3 w.heap.size (fun j => if j = 0 then A else if j = 1 then D else E) (fun j => if j = 0 then n else if j = 1 then m else q) (fun j => if j = 0 then cn else if j = 1 then cm else cq) (fun j => if j = 0 then la else if j = 1 then lb else lc) (by omega) (by simp) (c3 (by show n ≤ 1000; omega) (by show m ≤ 1000; omega) (by show q ≤ 1000; omega))
    (c3 (by rw [Lib.cell_of_heap (blk_new w _)]; rfl) (by rw [Lib.cell_of_heap (blk_new w _)]; rfl) (by rw [Lib.cell_of_heap (blk_new w _)]; rfl)) (c3 (hla.below hb).rd (hlb.below hb).rd (hlc.below hb).rd) (c3 (AllIn.sml hia (by omega)) (AllIn.sml hib (by omega)) (AllIn.sml hic (by omega))) 0 (fun _ _ _ => rfl) (fun _ _ ⟨j, hj, i, hi, hbad⟩ => ?_) (fun hbad => ?_)).mono ?_
  · exfalso
    rcases (show j = 0 ∨ j = 1 ∨ j = 2 by omega) with e | e | e
    · subst e
      exact hbad (hia _ (nmem.2 ⟨i, by rw [hla.len]; exact hi, rfl⟩))
    · subst e
      exact hbad (hib _ (nmem.2 ⟨i, by rw [hlb.len]; exact hi, rfl⟩))
    · subst e
      exact hbad (hic _ (nmem.2 ⟨i, by rw [hlc.len]; exact hi, rfl⟩))
  · exfalso
    rcases hbad with ⟨j, hj, hbad⟩ | ⟨_, hbad⟩
    · rcases (show j = 0 ∨ j = 1 ∨ j = 2 by omega) with e | e | e
      · subst e; exact hbad ⟨hpa, hn⟩
      · subst e; exact hbad ⟨hpb, hm⟩
      · subst e; exact hbad ⟨hpc, hq⟩
    · exact hbad hw
  · rintro e w' ⟨p, rfl, hb2, hy, _⟩
    obtain ⟨b, rfl, hm2, _⟩ := hy rfl
    exact ⟨b, rfl, hb.trans (hb2.mono hb.size), hm2⟩
theorem nB_choose (p : Bool) (f g : Nat → Bool) (n : Nat) : nB (fun i => if p then f i else g i) n = if p then nB f n else nB g n := by cases p <;> rfl
set_option maxHeartbeats 1600000 in
set_option maxRecDepth 100000 in
theorem vchose_any (h : LvG B w0 w c gs) {A D : Option Addr} {n m cn cm : Nat} {la lb : List Nat} (p : Nat) (hp : p / 2 < gs.length) (hla : VcAt w c A n la) (hlb : VcAt w c D m lb) (hia : AllIn gs la) (hib : AllIn gs lb) (hn : n ≤ 32) (hm : m ≤ 32) (hg : gs.length ≤ 60000) :
    Calls Try.prog 26 #[.pointer (some ⟨c.bg, 0, none⟩), .int .u32 (p : Int), .slice A n cn, .slice D m cm] w (Vec2To B w0 w c gs (max n m) 128 (p < 2 ∧ Cst la ∧ Cst lb) fun vals => if sayE vals gs p then valE vals gs la else valE vals gs lb) := by
  have hpa := hla.pos
  have hpb := hlb.pos
  have hlna := hla.len
  have hlnb := hlb.len
  obtain ⟨M, hM⟩ : ∃ M, M = max n m := ⟨_, rfl⟩
  have hMM : max (n : Int) (m : Int) = (M : Int) := by omega
  rw [← hM]
  have hM1 : 1 ≤ M ∧ M ≤ 32 ∧ n ≤ M ∧ m ≤ M := by omega
  have hb1 : Below w.heap.size w (w.alloc (.cells #[.int .u32 (p : Int)] 25)) := (Below.refl _ _).alloc (Nat.le_refl _) _
  have hic : AllIn gs [p] := fun x hx => by rw [List.mem_singleton] at hx; rw [hx]; exact hp
  have hbg : Calls Try.prog 33 #[.pointer (some ⟨c.bg, 0, none⟩), .int .i64 (M : Int), .slice (some ⟨w.heap.size + 1, 0, none⟩) 3 3] ((w.alloc (.cells #[.int .u32 (p : Int)] 25)).alloc (.cells #[.slice A n cn, .slice D m cm, .slice (some ⟨w.heap.size, 0, none⟩) 1 1] 27)) fun e w' => ∃ b, e = .returned (.tuple #[.pointer (some ⟨b, 0, none⟩), .int .i64 0]) ∧ Below w.heap.size w w' ∧ VMk w' c b := by
    have := vbeg3 (h.below hb1) (hla.below hb1) (hlb.below hb1) (VcAt.made h (l := [p]) (Nat.succ_pos _)) hia hib hic (cn := cn) (cm := cm) (cq := 1) hn hm (Nat.succ_le_succ (Nat.zero_le 31)) (by omega) M ⟨by omega, by omega⟩
    have hsz : (w.alloc (.cells #[.int .u32 (p : Int)] 25)).heap.size = w.heap.size + 1 := by simp
    rw [← hsz]
    exact this.mono fun e w' ⟨b, q1, q2, q3⟩ => ⟨b, q1, hb1.trans (q2.mono hb1.size), q3⟩
  have HBG := Lib.hid hbg
  obtain ⟨C, hC1, hC2, hmk⟩ := make_vec M (by omega)
  have HG := Lib.hid h
  have HA := Lib.hid hla
  have HD := Lib.hid hlb
  have HIA : Hid (∀ i, atL la i / 2 < gs.length ∧ (Cst la → atL la i < 2)) := fun i => ⟨hia _ (atL_mem (by omega) i), fun q => q.at_ (by omega) i⟩
  have HIB : Hid (∀ i, atL lb i / 2 < gs.length ∧ (Cst lb → atL lb i < 2)) := fun i => ⟨hib _ (atL_mem (by omega) i), fun q => q.at_ (by omega) i⟩
  have HN := Lib.hid hg
  have HP := Lib.hid hp
  have HC := Lib.hid (And.intro hC1 hC2)
  have HB1 := Lib.hid hb1
  clear h hla hlb hia hib hg hM hC1 hC2 hn hm hp hic hb1 hbg
  go_enter Try.func26, Try.ntmps26
  go_wp2_with fail
  refine HBG.out.mono ?_
  rintro e w1 ⟨b, rfl, hb, hmk1⟩
  have hmk0 := hmk w1
  have hg1 := HG.out.below hb
  have H0 : Hid (OutAt B w0 w1 c w1.heap.size M [] (w1.alloc (.cells C 25)) c gs ∧ ResK gs gs [] 0 (4 * 0) (p < 2 ∧ Cst la ∧ Cst lb) (fun vals i => if sayE vals gs p then bitE vals gs la i else bitE vals gs lb i)) := ⟨OutAt.start hg1 (by omega) HC.out.1 HC.out.2, ResK.nil hg1.wf⟩
  have HM := Lib.hid hmk1
  have HW := Lib.hid hb
  have HBB := Lib.hid hg1.hB
  have HA1 := Lib.hid (HA.out.below hb)
  have HD1 := Lib.hid (HD.out.below hb)
  clear hmk hmk1 hb hg1 HBG HC HA HD HG
  go_wp2_with fail
  go_loopw [38] (fun i wr => ∃ (k : Nat) (o : List Nat) (ck : GrC) (gk : Gs), i = .int .i64 (k : Int) ∧ k ≤ M ∧ Hid (OutAt B w0 w1 c w1.heap.size M o wr ck gk ∧ ResK gs gk o k (4 * k) (p < 2 ∧ Cst la ∧ Cst lb) (fun vals i => if sayE vals gs p then bitE vals gs la i else bitE vals gs lb i))) (fun i _ => M - (intOf i).toNat)
  case atStart => exact ⟨0, [], c, gs, rfl, Nat.zero_le _, H0⟩
  case round =>
    obtain ⟨k, o, ck, gk, rfl, hk, HO⟩ := hrel
    clear H0
    by_cases hlt : k < M
    · have tk : decide ((k : Int) < (M : Int)) = true := decide_eq_true (by omega)
      have tk2 : decide (k < M) = true := decide_eq_true hlt
      have tk3 : decide ((M : Int) ≤ (k : Int)) = false := decide_eq_false (by omega)
      obtain ⟨ho1, ho2⟩ := HO.out
      have HA2 := Lib.hid (vat_any cn (HA1.out.to ho1.tr) (by omega) k)
      have HB2 := Lib.hid (vat_any cm (HD1.out.to ho1.tr) (by omega) k)
      have HC := Lib.hid (vchoose_any ho1.tr.lv (HM.out.to ho1.tr) p (atL la k) (atL lb k) (ho2.up HP.out) (ho2.up (HIA.out _).1) (ho2.up (HIB.out _).1) (by have := HN.out; have := ho2.len; omega))
      have HS : Hid (∀ w3 r g3 c3, Res gk g3 r 4 (p < 2 ∧ atL la k < 2 ∧ atL lb k < 2) (fun vals => if sayE vals gk p then sayE vals gk (atL la k) else sayE vals gk (atL lb k)) → LvTo B w0 wr w3 ck c3 g3 → w3.cell? ⟨w1.heap.size, k, none⟩ = some (.int .u32 0) ∧ w3.frozen? ⟨w1.heap.size, k, none⟩ = false ∧ Hid (OutAt B w0 w1 c w1.heap.size M (o ++ [r]) (w3.setCell ⟨w1.heap.size, k, none⟩ (.int .u32 (r : Int))) c3 g3 ∧ ResK gs g3 (o ++ [r]) (k + 1) (4 * (k + 1)) (p < 2 ∧ Cst la ∧ Cst lb) (fun vals i => if sayE vals gs p then bitE vals gs la i else bitE vals gs lb i))) := fun w3 r g3 c3 h1 h2 => by
        have := ho1.put HBB.out h2 (by rw [ho2.ll]; exact hlt) r
        rw [ho2.ll] at this
        refine ⟨this.1, this.2.1, this.2.2, ho2.snoc h1 (fun q => ⟨q.1, (HIA.out _).2 q.2.1, (HIB.out _).2 q.2.2⟩) fun vals => ?_⟩
        rw [say_ex ho2.ex (HIA.out _).1, say_ex ho2.ex (HIB.out _).1, say_ex ho2.ex HP.out]
        rfl
      clear ho1 ho2 HO
      generalize atL la k = x at *
      generalize atL lb k = y at *
      go_wp2_with fail
      refine HA2.out.mono ?_
      rintro e w' ⟨rfl, rfl⟩
      go_wp2_with fail
      refine HB2.out.mono ?_
      rintro e w' ⟨rfl, rfl⟩
      go_wp2_with fail
      refine HC.out.mono ?_
      rintro e w3 ⟨r, g3, c3, rfl, h1, h2⟩
      obtain ⟨d1, d2, HN2⟩ := HS.out w3 r g3 c3 h1 h2
      clear h1 h2 HS HC HA2 HB2
      go_wp2_with fail
      go_roundw
      case rel => exact ⟨k + 1, o ++ [r], c3, g3, by go_num, by omega, HN2⟩
      case measure => simp [intOf]; omega
    · have tk : decide ((k : Int) < (M : Int)) = false := decide_eq_false (by omega)
      have tk2 : decide (k < M) = false := decide_eq_false hlt
      obtain rfl : k = M := by omega
      obtain ⟨ho1, ho2⟩ := HO.out
      have HV := Lib.hid (vvec_any (HM.out.to ho1.tr) (.slice (some ⟨w1.heap.size, 0, none⟩) k k))
      have HE : Hid (Vec2To B w0 w c gs k 128 (p < 2 ∧ Cst la ∧ Cst lb) (fun vals => if sayE vals gs p then valE vals gs la else valE vals gs lb) (.returned (.tuple #[.slice (some ⟨w1.heap.size, 0, none⟩) k k, .int .i64 0])) wr) :=
        ⟨_, rfl, VecTo.pre HW.out (ho1.fin ho2 (by omega) (by omega) (fun q => q) fun vals => by
          rw [nB_choose, valE_at (by omega), valE_at (by omega)])⟩
      clear ho1 ho2 HO HM
      go_wp2_with fail
      refine HV.out.mono ?_
      rintro e w4 ⟨rfl, rfl⟩
      go_wp2_with fail
      go_ret2
      exact HE.out
end
end Go.Proofs.Ytelpoocgmflofaa
