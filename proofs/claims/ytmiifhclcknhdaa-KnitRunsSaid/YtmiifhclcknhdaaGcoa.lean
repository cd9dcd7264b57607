/- A circuit's contracts: cone, Cone. -/
import Derived.Test.YtmiifhclcknhdaaGcon
namespace Go.Proofs.Ytmiifhclcknhdaa
open Go.RowKit GatM

theorem gsort_sl {w : World} {A : Option Addr} {c : Nat} {C : List Nat} (h : SlN .i64 3 w A c C) (hn : C.length ≤ 90000) :
    Calls Try.prog 49 #[.slice A C.length c] w fun e w' => e = .returned (.tuple #[]) ∧ ∃ D : List Nat, D.Perm C ∧ D.Pairwise (· ≤ ·) ∧ SlV 3 1 w' A C.length c (numF .i64 D) ∧ Kf (fun k => onB A k) w w' := by
  rcases h with ⟨rfl, h0, rfl⟩ | ⟨g, rfl, hr⟩
  · obtain rfl : C = [] := List.length_eq_zero_iff.1 h0
    refine (gsort_nil none 0 w).mono ?_
    rintro e w' ⟨rfl, rfl⟩
    exact ⟨rfl, [], List.Perm.refl _, List.Pairwise.nil, .inl ⟨rfl, rfl, rfl⟩, Kf.refl _ _⟩
  · refine (gsort_any hr hn).mono ?_
    rintro e w' ⟨rfl, D, h1, h2, h3, h4⟩
    exact ⟨rfl, D, h1, h2, .inr ⟨g, rfl, h3⟩, h4.mono fun x hx => .inl ((onB_some _ _).2 hx)⟩
/-- What cone answers. -/
def ConeTo (gs : Gs) (l : List Nat) (w : World) (e : Ending) (w' : World) : Prop :=
  ∃ D A c, e = .returned (.slice A D.length c) ∧ ConeL gs l D ∧ SlN .i64 3 w' A c D ∧ (∀ k, onB A k → w.heap.size ≤ k) ∧ Below w.heap.size w w'
theorem CnAt.start {w w1 w2 : World} {m m2 : MkC} (hm : MkAt w1 m fun _ => false) (hb1 : Below w.heap.size w w1) (hno : ∀ k, m.own k → w.heap.size ≤ k)
    (hM : MkTo (w1.alloc (.cells #[m.val] 82)) w2 m m2 (markS (fun _ => false) 0)) :
    CnAt w.heap.size w (w2.alloc (.cells #[.slice none 0 0] 45)) w1.heap.size w2.heap.size m2 none 0 [] ∧ w.heap.size ≤ (w2.alloc (.cells #[.slice none 0 0] 45)).heap.size := by
  have hs1 := hb1.size
  have hs2 := hM.kf.size
  have h1 := blk_new w1 (.cells #[m.val] 82)
  have hno5 : ¬ m.own w1.heap.size := fun e => Nat.lt_irrefl _ (hm.lt e)
  have hlt : w1.heap.size < w2.heap.size := by
    have : (w1.alloc (.cells #[m.val] 82)).heap.size = w1.heap.size + 1 := by simp
    omega
  refine ⟨⟨?_, blk_new w2 _, ?_, .inl ⟨rfl, rfl, rfl⟩, hs1, by omega, fun k hk => ?_, fun k hk => absurd hk (onB_none k), ?_⟩, by simp; omega⟩
  · rw [Below.heap_alloc _ _ _ hlt, hM.kf.block _ (lt_of_heap h1) hno5, hM.val]; exact h1
  · refine (hM.at_.below ((Below.refl _ _).alloc (Nat.le_refl _) _)).congr fun k _ => ?_
    unfold conSt markS
    by_cases e : k = 0
    · subst e; simp
    · rw [if_neg e, decide_eq_false (by simp [e])]
  · rcases hM.new k hk with y | y
    · exact hno k y
    · have : w1.heap.size + 1 ≤ k := by simpa using y
      omega
  · refine Below.alloc ?_ (by omega) _
    have hk : Below w.heap.size (w1.alloc (.cells #[m.val] 82)) w2 := hM.kf.below (by simp; omega) fun x hx => hno x hx
    exact (hb1.alloc hs1 _).trans hk
/-- Where the search has come to. -/
def SrAt (w : World) (gs : Gs) (l : List Nat) (b5 b6 nb k i : Nat) (C : List Nat) (wr : World) : Prop :=
  ∃ m Ac cc, CnAt w.heap.size w wr b5 b6 m Ac cc C ∧ m.nb = nb ∧ w.heap.size ≤ wr.heap.size ∧ Bfs gs l k i C
set_option maxHeartbeats 6400000 in
set_option maxRecDepth 100000 in
theorem gcone_any {w : World} {c : GrC} {gs mp : Gs} {ins : List Nat} (h : GrAt w c gs ins mp) (hw : Wf gs) (A : Option Addr) (n cn : Nat) (l : List Nat) (hl : RdN .u32 w w.heap.size A n l) (hin : AllIn gs l) (hn : gs.length ≤ 90000) (hnn : n ≤ 90000) :
    Calls Try.prog 32 #[.pointer (some ⟨c.bg, 0, none⟩), .slice A n cn] w (ConeTo gs l w) := by
  have HNM := Lib.hid (mnew_any h hw.pos hn)
  have HG := Lib.hid h
  have HW := Lib.hid hw
  have HL := Lib.hid hl
  have HI := Lib.hid hin
  have HPOS := hw.pos
  have HS := Lib.hid (AllIn.sml hin hn)
  clear h hw hl hin
  go_enter Try.func32, Try.ntmps32
  go_wp2_with fail
  refine HNM.out.mono ?_
  rintro e w1 ⟨m, rfl, hm, hnb, hb1, hno⟩
  have hbx : Below w1.heap.size w1 (w1.alloc (.cells #[m.val] 82)) := (Below.refl _ _).alloc (Nat.le_refl _) _
  have had : Calls Try.prog 46 #[m.val, .int .i64 0] (w1.alloc (.cells #[m.val] 82)) fun e w' => e = .returned (.tuple #[]) ∧ ∃ m', MkTo (w1.alloc (.cells #[m.val] 82)) w' m m' (markS (fun _ => false) 0) := madd_any (hm.below hbx) 0 (by omega)
  have HAD := Lib.hid had
  have HST := Lib.hid fun w2 m2 hM => CnAt.start (w2 := w2) (m2 := m2) hm hb1 hno hM
  have HNB := Lib.hid hnb
  clear hm hnb hb1 hno hbx HNM had
  simp only [MkC.val] at HAD HST ⊢
  go_wp2_with fail
  refine HAD.out.mono ?_
  rintro e w2 ⟨rfl, m2, hM⟩
  obtain ⟨hC, hsz⟩ := HST.out w2 m2 hM
  have HC0 : Hid (SrAt w gs l w1.heap.size w2.heap.size m.nb 0 0 [] (w2.alloc (.cells #[.slice none 0 0] 45))) := ⟨m2, none, 0, hC, hM.nb, hsz, bfs_start gs l⟩
  generalize hb5 : w1.heap.size = b5 at *
  clear hM hC hsz HAD HST hb5
  generalize m.nb = nb at *
  go_wp2_with fail
  generalize hb6 : w2.heap.size = b6 at *
  clear hb6
  go_loopw [21] (fun i wr => ∃ (k : Nat) (C : List Nat), i = .int .i64 (k : Int) ∧ k ≤ n ∧ Hid (SrAt w gs l b5 b6 nb k 0 C wr)) (fun i _ => n - (intOf i).toNat)
  case atStart => exact ⟨0, [], rfl, Nat.zero_le _, HC0⟩
  case round =>
    obtain ⟨k, C, rfl, hk, hC⟩ := hrel
    obtain ⟨m, Ac, cc, hA, hnb, hsz, hB⟩ := hC.out
    by_cases hlt : k < n
    · have tk : decide ((k : Int) < (n : Int)) = true := decide_eq_true (by omega)
      have tk2 : decide (k < n) = true := decide_eq_true hlt
      have hkl : k < l.length := by have := HL.out.len; omega
      obtain ⟨b, o, rfl, hb, hc⟩ := (HL.out.below hA.be).get hlt
      have hx : l.getD k 0 / 2 < gs.length := HI.out _ (nmem.2 ⟨k, hkl, rfl⟩)
      have hxs := HS.out k
      have HME := Lib.hid (cmeet_any hA hsz (by have := hB.len; omega) (l.getD k 0) hxs (by rw [hnb]; have := HNB.out; omega))
      have HR := Lib.hid (hB.root hkl HI.out)
      rw [hnb] at HME
      generalize l.getD k 0 = x at *
      clear hA hB hC hsz hnb HC0
      go_wp2_with fail
      refine HME.out.mono ?_
      rintro e w3 ⟨rfl, m', Ac', cc', hA', hnb', hsz'⟩
      have HC' : Hid (SrAt w gs l b5 b6 nb (k + 1) 0 (meetC C (x / 2)) w3) := ⟨m', Ac', cc', hA', hnb', hsz', HR.out⟩
      clear hA' hnb' hsz' HME HR
      go_wp2_with fail
      go_roundw
      case rel => exact ⟨k + 1, _, by go_num, by omega, HC'⟩
      case measure => simp [intOf]; omega
    · have tk : decide ((k : Int) < (n : Int)) = false := decide_eq_false (by omega)
      have tk2 : decide (k < n) = false := decide_eq_false hlt
      obtain rfl : k = n := by omega
      clear hA hB hsz hnb HC0
      go_wp2_with fail
      obtain ⟨wo, rfl⟩ : ∃ wo : World, wo = wr := ⟨_, rfl⟩
      go_loopw [10] (fun i wr => ∃ (j : Nat) (C : List Nat), i = .int .i64 (j : Int) ∧ j ≤ C.length ∧ Hid (SrAt w gs l b5 b6 nb k j C wr)) (fun i _ => gs.length - (intOf i).toNat)
      case atStart => exact ⟨0, _, rfl, Nat.zero_le _, hC⟩
      case round =>
        obtain ⟨j, C, rfl, hj, hC⟩ := hrel
        obtain ⟨m, Ac, cc, hA, hnb, hsz, hB⟩ := hC.out
        have c6 : wr.cell? ⟨b6, 0, none⟩ = some (.slice Ac C.length cc) := by rw [Lib.cell_of_heap hA.v6]; rfl
        by_cases hlt : j < C.length
        · have tk : decide ((j : Int) < (C.length : Int)) = true := decide_eq_true (by omega)
          have tk2 : decide (j < C.length) = true := decide_eq_true hlt
          have tk3 : decide ((C.length : Int) ≤ (j : Int)) = false := decide_eq_false (by omega)
          obtain ⟨g, rfl, hr⟩ := SlV.row hA.rw (by omega)
          have cj : wr.cell? ⟨g, j, none⟩ = some (.int .i64 ((C.getD j 0 : Nat) : Int)) := hr.cell (show j < C.length * 1 by omega)
          have hCl := hB.len
          have hx := hB.nz _ (ngetD hlt)
          have HPA := Lib.hid (gparts_any (HG.out.below hA.be) HW.out hn (C.getD j 0) hx.2)
          have hw32 := wf_sml HW.out hn hx.2
          by_cases hne : getG gs (C.getD j 0) = (0, 0)
          · have hab : andB gs (C.getD j 0) = false := by unfold andB; rw [decide_eq_false]; exact fun e => e hne
            rw [hab] at HPA
            have HN : Hid (∀ w3, Below wr.heap.size wr w3 → SrAt w gs l b5 b6 nb k (j + 1) C w3) := fun w3 hb3 => ⟨m, _, cc, hA.below hb3 hsz, hnb, Nat.le_trans hsz hb3.size, hB.leaf hne⟩
            generalize C.getD j 0 = x at *
            generalize (getG gs x).1 = a at *
            generalize (getG gs x).2 = b at *
            clear hA hB hC hnb hsz hr hab hne hw32 hx
            go_wp2_with fail
            refine HPA.out.mono ?_
            rintro e w3 ⟨rfl, hb3⟩
            have HN2 := Lib.hid (HN.out w3 hb3)
            clear hb3 HN HPA c6 cj
            go_wp2_with fail
            go_roundw
            case rel => exact ⟨j + 1, C, by go_num, by omega, HN2⟩
            case measure => simp [intOf]; omega
          · have hab : andB gs (C.getD j 0) = true := by unfold andB; rw [decide_eq_true hne]
            rw [hab] at HPA
            have hchl := HW.out.lt1 hx.2 hne
            have hst := hB.step HW.out hlt hne
            have HB1 : Hid (∀ w3, Below wr.heap.size wr w3 → Calls Try.prog 47 #[.int .u32 (((getG gs (C.getD j 0)).1 : Nat) : Int), .pointer (some ⟨b5, 0, none⟩), .pointer (some ⟨b6, 0, none⟩)] w3 (MeetTo w.heap.size w b5 b6 nb (meetC C ((getG gs (C.getD j 0)).1 / 2)))) := fun w3 hb3 => by
              have := cmeet_any (hA.below hb3 hsz) (Nat.le_trans hsz hb3.size) (by omega) (getG gs (C.getD j 0)).1 hw32.1 (by rw [hnb]; have := HNB.out; omega)
              rwa [hnb] at this
            have hl1 : (meetC C ((getG gs (C.getD j 0)).1 / 2)).length ≤ C.length + 1 := by unfold meetC; split <;> simp
            have HB2 : Hid (∀ w4, ∀ m' Ac' cc', CnAt w.heap.size w w4 b5 b6 m' Ac' cc' (meetC C ((getG gs (C.getD j 0)).1 / 2)) → m'.nb = nb → w.heap.size ≤ w4.heap.size → Calls Try.prog 47 #[.int .u32 (((getG gs (C.getD j 0)).2 : Nat) : Int), .pointer (some ⟨b5, 0, none⟩), .pointer (some ⟨b6, 0, none⟩)] w4 (MeetTo w.heap.size w b5 b6 nb (meetC (meetC C ((getG gs (C.getD j 0)).1 / 2)) ((getG gs (C.getD j 0)).2 / 2)))) := fun w4 m' Ac' cc' h1 h2 h3 => by
              have := cmeet_any h1 h3 (by omega) (getG gs (C.getD j 0)).2 hw32.2 (by rw [h2]; have := HNB.out; omega)
              rwa [h2] at this
            have HST := Lib.hid hst
            have hjl : j + 1 ≤ (meetC (meetC C ((getG gs (C.getD j 0)).1 / 2)) ((getG gs (C.getD j 0)).2 / 2)).length := Nat.le_trans hlt (Nat.le_trans (meet_len _ _) (meet_len _ _))
            have HJL := Lib.hid hjl
            generalize meetC (meetC C ((getG gs (C.getD j 0)).1 / 2)) ((getG gs (C.getD j 0)).2 / 2) = C2 at *
            generalize meetC C ((getG gs (C.getD j 0)).1 / 2) = C1 at *
            generalize C.getD j 0 = x at *
            generalize (getG gs x).1 = a at *
            generalize (getG gs x).2 = b at *
            clear hA hB hC hnb hsz hr hab hne hw32 hx hchl hst hl1 hjl
            go_wp2_with fail
            refine HPA.out.mono ?_
            rintro e w3 ⟨rfl, hb3⟩
            have HN1 := Lib.hid (HB1.out w3 hb3)
            clear hb3 HB1 HPA c6 cj
            go_wp2_with fail
            refine HN1.out.mono ?_
            rintro e w4 ⟨rfl, m', Ac', cc', h1, h2, h3⟩
            have HN2 := Lib.hid (HB2.out w4 m' Ac' cc' h1 h2 h3)
            clear h1 h2 h3 HB2 HN1
            go_wp2_with fail
            refine HN2.out.mono ?_
            rintro e w5 ⟨rfl, m5, Ac5, cc5, h1, h2, h3⟩
            have HN3 : Hid (SrAt w gs l b5 b6 nb k (j + 1) C2 w5) := ⟨m5, Ac5, cc5, h1, h2, h3, HST.out⟩
            clear h1 h2 h3 HN2 HST
            go_wp2_with fail
            go_roundw
            case rel => exact ⟨j + 1, C2, by go_num, HJL.out, HN3⟩
            case measure => simp [intOf]; omega
        · have tk : decide ((j : Int) < (C.length : Int)) = false := decide_eq_false (by omega)
          have tk2 : decide (j < C.length) = false := decide_eq_false hlt
          obtain rfl : j = C.length := by omega
          have HSO := Lib.hid (gsort_sl hA.rw (by have := hB.len; omega))
          have HFN : Hid (∀ w5 D, D.Perm C → D.Pairwise (· ≤ ·) → SlV 3 1 w5 Ac C.length cc (numF .i64 D) → Kf (fun k => onB Ac k) wr w5 → w5.cell? ⟨b6, 0, none⟩ = some (.slice Ac C.length cc) ∧ ConeTo gs l w (.returned (.slice Ac C.length cc)) w5) := fun w5 D h1 h2 h3 h4 => by
            have e6 : w5.heap[b6]? = wr.heap[b6]? := h4.block b6 (lt_of_heap hA.v6) fun e => (hA.na e).2.1 rfl
            have hlen := h1.length_eq
            have hnd : D.Nodup := (h1.nodup_iff).2 hB.nd
            have hll : k = l.length := HL.out.len.symm
            subst hll
            refine ⟨by rw [World.cell?_of_block (a := ⟨b6, 0, none⟩) e6]; exact c6, D, Ac, cc, by rw [hlen], ⟨?_, fun x => by rw [h1.mem_iff]; exact hB.done x⟩, by rw [SlN, hlen]; exact h3, hA.la, hA.be.trans (h4.below hsz fun x hx => hA.la x hx)⟩
            exact (List.Pairwise.and h2 hnd).imp fun h => by omega
          clear hA hB hC hnb hsz
          go_wp2_with fail
          refine HSO.out.mono ?_
          rintro e w5 ⟨rfl, D, h1, h2, h3, h4⟩
          obtain ⟨d6, hF⟩ := HFN.out w5 D h1 h2 h3 h4
          have HF := Lib.hid hF
          clear h1 h2 h3 h4 hF HFN HSO c6
          go_wp2_with fail
          go_ret
          exact HF.out
end Go.Proofs.Ytmiifhclcknhdaa
