/- A Knit beside its graph, as a law has them: know, Lit. -/
import Derived.Test.YtmiifhclcknhdaaKntH
namespace Go.Proofs.Ytmiifhclcknhdaa
open Go.RowKit GatM KntM Go.Lib

/-- A Knit whose gates K have variables, beside its graph. -/
def knS (c : GrC) (gs : Gs) (m M : Nat) (K : List Nat) : KnS := ⟨c.bg, m, K, K.length, [], K.length, M, clsK gs K⟩
structure KN (w : World) (q : KnC) (c : GrC) (gs : Gs) (M m : Nat) (K : List Nat) : Prop where
  at_ : KnAt w q (knS c gs m M K)
  gr : GrAt w c gs (insL gs) gs
  wf : Wf gs
  ok : OkK gs K
  km : m ≤ gs.length ∧ ∀ n ∈ K, n < m
  ap : ∀ k, c.own k → q.own k = 0
theorem cls_len (gs : Gs) (K : List Nat) : (clsK gs K).length ≤ 3 * K.length := by
  unfold clsK
  induction K with
  | nil => simp
  | cons x K ih =>
    rw [List.flatMap_cons, List.length_append, List.length_cons]
    have : (tellL gs (x :: K) x).length ≤ 3 := by unfold tellL; split; simp; split <;> simp
    have h2 : ∀ (K' L : List Nat), (L.flatMap (tellL gs K')).length ≤ 3 * L.length := fun K' L => by
      induction L with
      | nil => simp
      | cons y L ih2 =>
        rw [List.flatMap_cons, List.length_append, List.length_cons]
        have : (tellL gs K' y).length ≤ 3 := by unfold tellL; split; simp; split <;> simp
        omega
    have := h2 (x :: K) K
    omega
theorem flat_len (gs : Gs) (K L : List Nat) : (L.flatMap (tellL gs K)).length ≤ 3 * L.length := by
  induction L with
  | nil => simp
  | cons y L ih2 =>
    rw [List.flatMap_cons, List.length_append, List.length_cons]
    have : (tellL gs K y).length ≤ 3 := by unfold tellL; split; simp; split <;> simp
    omega
section
variable {w w' : World} {q : KnC} {c : GrC} {gs : Gs} {M m : Nat} {K : List Nat}
theorem KN.below (h : KN w q c gs M m K) (hb : Below w.heap.size w w') : KN w' q c gs M m K := ⟨h.at_.below hb, h.gr.below hb, h.wf, h.ok, h.km, h.ap⟩
theorem KN.grs (h : KN w q c gs M m K) {q' : KnC} (hT : KnTo w w' q q') : GrAt w' c gs (insL gs) gs ∧ ∀ k, c.own k → q'.own k = 0 :=
  ⟨h.gr.same fun k hk => (hT.other (h.gr.lt hk) (h.ap k hk)).1, fun k hk => (hT.other (h.gr.lt hk) (h.ap k hk)).2⟩
/-- What know leaves. -/
def KnowTo (w : World) (q : KnC) (c : GrC) (gs : Gs) (M : Nat) (K l : List Nat) (w' : World) : Prop :=
  ∃ q' D, KN w' q' c gs M gs.length (K ++ D) ∧ KnTo w w' q q' ∧ (∀ e ∈ l, e / 2 ∈ K ++ D) ∧ ((∀ e ∈ l, e / 2 ∈ K) → D = []) ∧ ∀ x ∈ D, RchK gs l x
/-- The loop that tells. -/
def TelA (w : World) (q : KnC) (s : KnS) (gs : Gs) (K D : List Nat) (i : Nat) (wr : World) : Prop := ∃ q', KnAt wr q' { s with F := clsK gs K ++ (D.take i).flatMap (tellL gs (K ++ D)) } ∧ KnTo w wr q q'
set_option maxHeartbeats 12800000 in
set_option maxRecDepth 100000 in
theorem kknow_any (h : KN w q c gs M m K) (hL : gs.length ≤ 1000) (hM : gs.length ≤ M) (hM9 : M ≤ 90000) (A : Option Addr) (n cn : Nat) (l : List Nat) (hl : RdN .u32 w w.heap.size A n l) (hin : AllIn gs l) (hnn : n ≤ 90000) :
    Calls Try.prog 23 #[.pointer (some ⟨q.bk, 0, none⟩), .slice A n cn] w fun e w' => e = .returned (.int .i64 0) ∧ KnowTo w q c gs M K l w' := by
  have hKl := h.ok.len
  have HH := Lib.hid h
  have HL := Lib.hid hl
  have HI := Lib.hid hin
  have HS := Lib.hid (AllIn.sml hin (by omega))
  have HU := Lib.hid (kunknown_any h.at_ h.gr h.wf rfl (by omega) h.km.2 (show K.length ≤ 90000 by omega) A n cn l hl hin hnn)
  have HU : Hid (∀ W, Below w.heap.size w W → Calls Try.prog 37 #[.pointer (some ⟨q.bk, 0, none⟩), .slice A n cn] W (UnkTo gs K l W)) := fun W hW => kunknown_any (h.below hW).at_ (h.below hW).gr h.wf rfl (by omega) h.km.2 (show K.length ≤ 90000 by omega) A n cn l (hl.belo hW) hin hnn
  have HLE : Hid (∀ W, Below w.heap.size w W → Calls Try.prog 15 #[.pointer (some ⟨c.bg, 0, none⟩)] W fun e w' => e = .returned (.int .i64 (gs.length : Int)) ∧ w' = W) := fun W hW => (glen_any (h.below hW).gr).mono fun _ _ ⟨a, b⟩ => ⟨a, b.symm⟩
  have HNU : Hid (∀ (e : Nat) W, e < 4294967296 → Calls Try.prog 26 #[.int .u32 (e : Int)] W fun r w' => r = .returned (.int .i64 ((e / 2 : Nat) : Int)) ∧ w' = W) := fun e W he => (knum_any e W he).mono fun _ _ ⟨a, b⟩ => ⟨a, b.symm⟩
  have HC : Hid (∀ W, Below w.heap.size w W → W.cell? ⟨q.bk, 0, none⟩ = some (.pointer (some ⟨c.bg, 0, none⟩))) := fun W hW => (h.below hW).at_.cells.1
  clear h hl hin
  go_enter Try.func23, Try.ntmps23
  go_wp2_with fail
  go_loopw [13, 6] (fun i _ wr => ∃ k : Nat, i = .int .i64 (k : Int) ∧ k ≤ n ∧ Hid (Below w.heap.size w wr)) (fun i _ _ => n - (intOf i).toNat)
  case atStart => exact ⟨0, rfl, Nat.zero_le _, Below.refl _ _⟩
  case round =>
    obtain ⟨k, rfl, hk, HB⟩ := hrel
    by_cases hlt : k < n
    · have tk : decide ((k : Int) < (n : Int)) = true := decide_eq_true (by omega)
      have tk2 : decide (k < n) = true := decide_eq_true hlt
      obtain ⟨b, o, rfl, hb, hc⟩ := (HL.out.below HB.out).get hlt
      have hx : l.getD k 0 / 2 < gs.length := HI.out _ (nmem.2 ⟨k, by have := HL.out.len; omega, rfl⟩)
      have HNX := Lib.hid fun W => HNU.out (l.getD k 0) W (HS.out k)
      generalize l.getD k 0 = x at *
      have tg : decide ((gs.length : Int) ≤ ((x / 2 : Nat) : Int)) = false := decide_eq_false (by omega)
      have tg2 : decide (gs.length ≤ x / 2) = false := decide_eq_false (by omega)
      have c0 := HC.out wr HB.out
      have HLX : Hid (∀ z, Calls Try.prog 15 #[.pointer (some ⟨c.bg, 0, none⟩)] (wr.drewN z) fun e w' => e = .returned (.int .i64 (gs.length : Int)) ∧ w' = wr.drewN z) := fun z => HLE.out _ (below_drewN HB.out z)
      have HB2 : Hid (∀ z, Below w.heap.size w (wr.drewN z)) := fun z => below_drewN HB.out z
      clear HB hx
      generalize x / 2 = xn at *
      generalize gs.length = gl at *
      go_wp2_with fail
      go_upto_region 4 with (fail)
      go_quiet (first | (go_at_call 26; exact Calls.quiet_of_same (HNX.out _)) | (go_at_call 15; exact Calls.quiet_of_same (HLX.out _)))
      go_wp2_with fail
      go_roundw
      case rel => exact ⟨k + 1, by go_num, by omega, HB2.out _⟩
      case measure => simp [intOf]; omega
    · have tk : decide ((k : Int) < (n : Int)) = false := decide_eq_false (by omega)
      have tk2 : decide (k < n) = false := decide_eq_false hlt
      obtain rfl : k = n := by omega
      have HUW := Lib.hid (HU.out wr HB.out)
      clear HU HLE HNU HC
      go_wp2_with fail
      refine HUW.out.mono ?_
      rintro e w1 ⟨D, A1, c1, rfl, hD, hDn, hrow, hnew, hb1⟩
      have hbw1 : Below w.heap.size w w1 := HB.out.trans (hb1.mono HB.out.size)
      have h1 := HH.out.below hbw1
      have hok2 := hD.ok h1.ok
      have hlen2 := hok2.len
      rw [List.length_append] at hlen2
      have hA1o : ∀ k, onB A1 k → q.own k = 0 := fun k hk => HH.out.at_.fr k (Nat.le_trans HB.out.size (hnew k hk))
      have HFE := Lib.hid (kfetch_yes h1.at_ rfl D.length (by show K.length + D.length ≤ M; omega) hM9)
      obtain ⟨m', hm'⟩ : ∃ m', gs.length = m + m' := ⟨gs.length - m, by have := HH.out.km.1; omega⟩
      have HCELL : Hid (∀ q' wr, KnTo w1 wr q q' → ∀ i, i < D.length → ∃ b, A1 = some ⟨b, 0, none⟩ ∧ wr.cell? ⟨b, i, none⟩ = some (.int .i64 ((D.getD i 0 : Nat) : Int))) := fun q' wr hT i hi => by
        obtain ⟨g, e1, hr⟩ := hrow.row (by omega)
        have hg0 := hA1o g (by rw [e1]; exact (onB_some _ _).2 rfl)
        exact ⟨g, e1, (World.cell?_of_block (a := ⟨g, i, none⟩) (hT.other hr.lt hg0).1).trans (hr.cell (show i < D.length * 1 by omega))⟩
      have HNA : Hid (∀ w2, FetP w1 q (knS c gs m M K) D.length w2 → Calls Try.prog 39 #[.pointer (some ⟨q.bk, 0, none⟩), .slice A1 D.length c1] w2 fun e w' => e = .returned (.tuple #[]) ∧ TelA w1 q ⟨c.bg, gs.length, K ++ D, K.length + D.length, [], K.length + D.length, M, []⟩ gs K D 0 w') := fun w2 hF => by
        obtain ⟨q2, k2, t2⟩ := hF
        have hg2 := h1.grs t2
        have hro : SlN .i64 3 w2 A1 c1 D := SlV.same hrow fun j hj => (t2.other (hrow.lt j hj) (hA1o j hj)).1
        have hna := kname_any k2 hg2.1 rfl (m := m') hm' (by omega) HH.out.km.2 (D := D) rfl hok2.nd (fun x hx => (hD.nz x hx).2) (show K.length ≤ 90000 by omega) A1 c1 hro.rdn (fun k hk => (t2.other (hrow.lt k hk) (hA1o k hk)).2) (by omega) (show K.length ≤ 90000 by omega)
        rw [t2.bk] at hna
        refine hna.mono ?_
        rintro e w3 ⟨rfl, q3, k3, t3⟩
        refine ⟨rfl, q3, ?_, t2.trans t3⟩
        rw [List.take_zero, List.flatMap_nil, List.append_nil]
        exact k3
      have HTE : Hid (∀ wr i, i < D.length → TelA w1 q ⟨c.bg, gs.length, K ++ D, K.length + D.length, [], K.length + D.length, M, []⟩ gs K D i wr → (∃ b, A1 = some ⟨b, 0, none⟩ ∧ wr.cell? ⟨b, i, none⟩ = some (.int .i64 ((D.getD i 0 : Nat) : Int))) ∧
          Calls Try.prog 40 #[.pointer (some ⟨q.bk, 0, none⟩), .int .i64 ((D.getD i 0 : Nat) : Int)] wr fun e w' => e = .returned (.int .i64 0) ∧ TelA w1 q ⟨c.bg, gs.length, K ++ D, K.length + D.length, [], K.length + D.length, M, []⟩ gs K D (i + 1) w') := fun wr i hi hT => by
        obtain ⟨q3, k3, t3⟩ := hT
        refine ⟨HCELL.out q3 wr t3 i hi, ?_⟩
        have hg3 := h1.grs t3
        have hDi := (hD.nz _ (ngetD hi)).2
        have hfl : (clsK gs K ++ (D.take i).flatMap (tellL gs (K ++ D))).length ≤ 80000 := by
          rw [List.length_append]
          have e1 := cls_len gs K
          have e2 := flat_len gs (K ++ D) (D.take i)
          rw [List.length_take] at e2
          omega
        have hte := ktell_any k3 hg3.1 h1.wf rfl rfl (by omega) (show (K ++ D).length ≤ 90000 by rw [List.length_append]; omega) hfl (D.getD i 0) hDi (fun hne => by
          have := h1.wf.lt1 hDi hne
          omega)
        rw [t3.bk] at hte
        refine hte.mono ?_
        rintro e w4 ⟨rfl, q4, k4, t4⟩
        refine ⟨rfl, q4, ?_, t3.trans t4⟩
        rw [flat_take _ _ hi, ← List.append_assoc]
        exact k4
      have HFIN : Hid (∀ wr, TelA w1 q ⟨c.bg, gs.length, K ++ D, K.length + D.length, [], K.length + D.length, M, []⟩ gs K D D.length wr → KnowTo w q c gs M K l wr) := fun wr hT => by
        obtain ⟨q3, k3, t3⟩ := hT
        have hg3 := h1.grs t3
        rw [List.take_length, ← cls_app h1.ok] at k3
        refine ⟨q3, D, ⟨?_, hg3.1, h1.wf, hok2, ⟨Nat.le_refl _, hok2.lt⟩, hg3.2⟩, (KnTo.ofBelow hbw1).trans t3, fun e he => by rw [List.mem_append]; exact hD.rts e he, hDn, hD.snd⟩
        unfold knS
        rw [List.length_append]
        exact k3
      clear hD hDn hrow hnew hb1 hbw1 h1 hok2 hA1o HUW HB hm'
      have hD9 : D.length ≤ 1000 := by omega
      clear hlen2
      go_wp2_with fail
      refine HFE.out.mono ?_
      rintro e w2 ⟨rfl, hF⟩
      have HNB := Lib.hid (HNA.out w2 hF)
      clear hF HFE HNA
      go_wp2_with fail
      refine HNB.out.mono ?_
      rintro e w3 ⟨rfl, hT⟩
      have HT0 := Lib.hid hT
      clear hT HNB
      go_wp2_with fail
      go_loopw [39, 9, 10] (fun iv _ _ wr => ∃ i : Nat, iv = .int .i64 (i : Int) ∧ i ≤ D.length ∧ Hid (TelA w1 q ⟨c.bg, gs.length, K ++ D, K.length + D.length, [], K.length + D.length, M, []⟩ gs K D i wr)) (fun iv _ _ _ => D.length - (intOf iv).toNat)
      case atStart => exact ⟨0, rfl, Nat.zero_le _, HT0⟩
      case round =>
        clear HT0
        obtain ⟨i, rfl, hi, hT⟩ := hrel
        by_cases hlt2 : i < D.length
        · have ti : decide ((i : Int) < (D.length : Int)) = true := decide_eq_true (by omega)
          have ti2 : decide (i < D.length) = true := decide_eq_true hlt2
          have ti3 : decide ((D.length : Int) ≤ (i : Int)) = false := decide_eq_false (by omega)
          have ti4 : decide (D.length ≤ i) = false := decide_eq_false (by omega)
          obtain ⟨⟨b, rfl, hc⟩, hk⟩ := HTE.out wr i hlt2 hT.out
          have HK := Lib.hid hk
          generalize D.getD i 0 = x at *
          clear hk hT
          go_wp2_with fail
          refine HK.out.mono ?_
          rintro e w4 ⟨rfl, hT4⟩
          have HT4 := Lib.hid hT4
          clear hT4 HK hc
          go_wp2_with fail
          go_roundw
          case rel => exact ⟨i + 1, by go_num, by omega, HT4⟩
          case measure => simp [intOf]; omega
        · obtain rfl : i = D.length := by omega
          have ti : decide ((D.length : Int) < (D.length : Int)) = false := decide_eq_false (by omega)
          have ti2 : decide (D.length < D.length) = false := decide_eq_false (by omega)
          have HE := Lib.hid (HFIN.out wr hT.out)
          clear hT HFIN HTE
          go_wp2_with fail
          go_ret
          exact ⟨rfl, HE.out⟩
end
end Go.Proofs.Ytmiifhclcknhdaa
