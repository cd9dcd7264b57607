/- A Knit's add and fetch; its spare variables. -/
import Derived.Test.YtmiifhclcknhdaaKntC
namespace Go.Proofs.Ytmiifhclcknhdaa
open Go.RowKit GatM KntM Go.Lib

theorem wpList_append_o {P : Program} {ops : Array Oper} {rest : List Oper} {o : Oper} {a : Act} {Q : Exit → Act → World → Prop} (w : World) (hgd : o.guard = none) (sl x : Operand) (t e : TypeId)
    (ho : o.op = .call { callee := .builtin .append, args := #[sl, x], argTypes := #[t, t] }) (ht : P.underlying t = some (.slice e)) {z z0 : Value} {bytes : Nat}
    (hinfo : (P.info? e).map (fun i => (i.zero, i.size, i.bytes)) = some (some z, 1, bytes)) (hzc : z.cells = #[z0]) (hby : bytes ≤ 1000)
    (A : Option Addr) (n c : Nat) (f : Nat → Value) (hs : a.eval sl = .slice A n c) (h : SlO e w A n c f) (hn : n ≤ 100000) (ad : Addr) (c' : Nat) (v : Value) (hx : a.eval x = .slice (some ad) 1 c') (hv : w.cell? ad = some v) (had : ad.add 0 = ad) (h1 : v.oneCell' = true)
    (hK : ∀ A' c2 w', SlO e w' A' (n + 1) c2 (fun j => if j < n then f j else v) → (∀ k, onB A' k → onB A k ∨ w.heap.size ≤ k) → (∀ B : Nat → Prop, (∀ j, onB A j → B j) → Kf B w w') → wpList P ops Q rest (a.put o.dst (.slice A' (n + 1) c2)) w') :
    wpList P ops Q (o :: rest) a w := by
  obtain ⟨A', c2, w', hr, h2, h3, h4⟩ := run_append_o w t o.type e ht hinfo hzc hby A n c f h hn ad c' v hv had h1
  exact wpList_append_run w hgd sl x t t ho _ _ hs hx _ _ hr (hK A' c2 w' h2 h3 h4)
section
variable {w : World} {q : KnC} {s : KnS}
/-- One spare variable more. -/
theorem KnAt.spare (h : KnAt w q s) {Wx w4 : World} (hb : Below w.heap.size w Wx) {x c4 : Nat} {A' : Option Addr} (hr : SlO 38 w4 A' (s.S.length + 1) c4 (fun j => if j < s.S.length then numF .i32 s.S j else .int .i32 (x : Int)))
    (hA : ∀ k, onB A' k → onB q.As k ∨ Wx.heap.size ≤ k) (hk : Kf (fun k => onB q.As k) Wx w4) :
    (w4.cell? ⟨q.bk, 4, none⟩ = some (.slice q.As s.S.length q.cs) ∧ w4.frozen? ⟨q.bk, 4, none⟩ = false) ∧ ∃ q', KnAt (w4.setCell ⟨q.bk, 4, none⟩ (.slice A' (s.S.length + 1) c4)) q' { s with S := s.S ++ [x] } ∧ KnTo w (w4.setCell ⟨q.bk, 4, none⟩ (.slice A' (s.S.length + 1) c4)) q q' := by
  have hsb := hb.size
  have hsk := hk.size
  have hbk : ¬ onB q.As q.bk := fun e => by have := h.sp.2 _ e; rw [h.ok] at this; cases this
  have K1 : Kf (fun k => (fun o => o = 1 ∨ o = 4) (q.own k)) w w4 := ((Kf.of_below hb).trans hk fun x hx => .inl hx).mono fun x hx => .inl (.inr (h.sp.2 x hx))
  have K2 := K1.set (p := ⟨q.bk, 4, none⟩) (.inl (.inl h.ok)) (.slice A' (s.S.length + 1) c4)
  have e0 : w4.heap[q.bk]? = some (.cells (q.kV s) 71 (0, 0)) := by rw [hk.block q.bk (by have := h.ltk; omega) hbk, hb.block _ h.ltk]; exact h.hk
  -- the block of the new slice
  obtain ⟨g, hg⟩ : ∃ g, ∀ k, onB A' k ↔ k = g := by
    rcases hr with ⟨_, e, _⟩ | ⟨g, o, cur, e, _⟩
    · omega
    · exact ⟨g, fun k => by rw [e, onB_some]⟩
  have hg' : q.own g = 4 ∨ w.heap.size ≤ g := by
    rcases hA g ((hg g).2 rfl) with e | e
    · exact .inl (h.sp.2 _ e)
    · exact .inr (by omega)
  have hl : g < w4.heap.size := hr.lt g ((hg g).2 rfl)
  have hne : g ≠ q.bk := by
    rintro rfl
    rcases hg' with e | e
    · rw [h.ok] at e; cases e
    · have := h.ltk; omega
  have hc : KChg (fun o => o = 1 ∨ o = 4) q.own (relabN q.own g 4) w (w4.setCell ⟨q.bk, 4, none⟩ (.slice A' (s.S.length + 1) c4)) := h.chg_new K2 hg' (by simp only [World.setCell, Array.size_modify]; exact hl)
  refine ⟨⟨by rw [Lib.cell_of_heap e0]; rfl, Lib.frozen_of_heap e0 _⟩, { q with own := relabN q.own g 4, As := A', cs := c4 }, ⟨?_, h.hs_kept hc (by simp), h.vs_kept hc (by simp), ?_, h.cl_kept hc (by simp) (by simp), h.ok_kept hc, h.os_kept hc, hc.fr⟩, hc.to (by simp) rfl rfl rfl⟩
  · rw [Lib.heap_setCell_same e0]
    unfold KnC.kV
    simp
  · have hl2 : (s.S ++ [x]).length = s.S.length + 1 := by simp
    refine ⟨?_, fun k hk' => ?_⟩
    · show SlO _ _ A' (s.S ++ [x]).length c4 _
      rw [hl2]
      refine (hr.same fun k hk' => ?_).congr fun j hj => ?_
      · rw [(hg k).1 hk']; exact Below.heap_setCell _ _ _ _ hne
      · unfold numF
        by_cases e : j < s.S.length
        · rw [if_pos e, List.getD, List.getD, List.getElem?_append_left e]
        · rw [if_neg e, List.getD, List.getElem?_append_right (by omega), show j - s.S.length = 0 by omega]; rfl
    · show relabN q.own g 4 k = 4
      rw [(hg k).1 hk', relabN_at]
set_option maxHeartbeats 1600000 in
theorem kadd_any (h : KnAt w q s) (hF : s.F.length ≤ 90000) (A : Option Addr) (n c : Nat) (cl : List Int) (hn : cl.length = n) (hn9 : n ≤ 90000) (hc : SlZ w A c cl) :
    Calls Try.prog 25 #[.pointer (some ⟨q.bk, 0, none⟩), .slice A n c] w (AddTo w q s cl) := by
  have HA := Lib.hid (sadd_any h hF A n c cl hn hn9 hc)
  obtain ⟨_, c1, _, _, _, _⟩ := h.cells
  have ma := meth_kadd
  clear h hc hn
  go_enter Try.func25, Try.ntmps25
  go_wp2_with fail
  refine HA.out.mono ?_
  rintro e w' ⟨rfl, h2⟩
  have H2 := Lib.hid h2
  clear h2 HA
  go_wp2_with fail
  go_ret
  exact ⟨rfl, H2.out⟩
/-- How many spare ones there are, by the memory. -/
def spN (bk : Nat) (w : World) : Nat := match w.cell? ⟨bk, 4, none⟩ with | some (.slice _ n _) => n | _ => 0
/-- The next j of the sink's variables. -/
def upN (nv j : Nat) : List Nat := (List.range j).map (nv + 1 + ·)
theorem upN_len (nv j : Nat) : (upN nv j).length = j := by simp [upN]
theorem upN_succ (nv j : Nat) : upN nv (j + 1) = upN nv j ++ [nv + j + 1] := by
  unfold upN
  rw [List.range_succ, List.map_append]
  simp; omega
theorem upN_get {nv j i : Nat} (h : i < j) : (upN nv j).getD i 0 = nv + 1 + i := by
  unfold upN
  simp [List.getD, List.getElem?_map, List.getElem?_range h]
/-- Its loop. -/
def FetP (w : World) (q : KnC) (s : KnS) (j : Nat) (wr : World) : Prop := ∃ q', KnAt wr q' { s with S := upN s.nv j, nv := s.nv + j } ∧ KnTo w wr q q'
set_option maxHeartbeats 3200000 in
set_option maxRecDepth 100000 in
theorem kfetch_yes (h : KnAt w q s) (hS : s.S = []) (many : Nat) (hM : s.nv + many ≤ s.M) (hb : s.M ≤ 90000) :
    Calls Try.prog 38 #[.pointer (some ⟨q.bk, 0, none⟩), .int .i64 (many : Int)] w fun e w' => e = .returned (.bool true) ∧ FetP w q s many w' := by
  have H0 : Hid (FetP w q s 0 w) := ⟨q, by
    have e : ({ s with S := upN s.nv 0, nv := s.nv + 0 } : KnS) = s := by
      cases s; simp only at hS; subst hS; rfl
    rw [e]; exact h, KnTo.refl w q⟩
  have mv := meth_kvar
  clear h hS
  go_enter Try.func38, Try.ntmps38
  go_wp2_with fail
  go_loopw [5] (fun _ wr => ∃ j : Nat, j ≤ many ∧ spN q.bk wr = j ∧ Hid (FetP w q s j wr)) (fun _ wr => many - spN q.bk wr)
  case atStart => exact ⟨0, by omega, by
    obtain ⟨q', h1, h2⟩ := H0.out
    have := h1.cells.2.2.2.2.1
    rw [h2.bk] at this
    unfold spN; rw [this]; exact upN_len _ _, H0⟩
  case round =>
    clear H0
    obtain ⟨j, hj, hsp, HP⟩ := hrel
    obtain ⟨q1, h1, h2⟩ := HP.out
    obtain ⟨_, c1, _, _, c4, cf⟩ := h1.cells
    have hbk := h2.bk
    rw [upN_len] at c4
    by_cases hlt : j < many
    · have tj : decide ((j : Int) < (many : Int)) = true := decide_eq_true (by omega)
      have tj2 : decide (j < many) = true := decide_eq_true hlt
      have HV := Lib.hid (svar_yes h1 (by show s.nv + j < s.M; omega) (by show s.M ≤ 100000; omega))
      have H2 := Lib.hid h2
      obtain ⟨bk1, hb1⟩ : ∃ b, b = q1.bk := ⟨_, rfl⟩
      rw [← hb1] at c1 c4
      rw [← hb1] at hbk
      subst hbk
      have HBK := Lib.hid hb1
      have HSP := Lib.hid hsp
      clear h1 h2 HP hb1 hsp cf
      go_wp2_with fail
      refine HV.out.mono ?_
      rintro e w2 ⟨rfl, k1, k2⟩
      obtain ⟨x, hx⟩ : ∃ x : Nat, x = s.nv + j + 1 := ⟨_, rfl⟩
      have hx3 : ({ s with S := upN s.nv j, nv := s.nv + j } : KnS).nv + 1 = x := hx.symm
      rw [hx3] at k1 ⊢
      have hx9 : x ≤ 90000 := by omega
      have hx1 : 1 ≤ x := by omega
      have t1 : decide ((x : Int) < 1) = false := decide_eq_false (by omega)
      have t2 : decide (2147483647 < (x : Int)) = false := decide_eq_false (by omega)
      have d4 : w2.cell? ⟨q.bk, 4, none⟩ = some (.slice q1.As j q1.cs) := by
        have := k1.cells.2.2.2.2.1
        rw [← HBK.out] at this
        rw [this]
        show some (Value.slice q1.As (upN s.nv j).length q1.cs) = _
        rw [upN_len]
      have hsl : Hid (SlO 38 (w2.alloc (.cells #[.int .i32 (x : Int)] 38)) q1.As j q1.cs (numF .i32 (upN s.nv j))) := by
        have := k1.sp.1
        rw [show ({ s with S := upN s.nv j, nv := x } : KnS).S.length = j from upN_len _ _] at this
        refine SlO.same this fun k hk => Below.heap_alloc _ _ _ (this.lt k hk)
      have HF : Hid (∀ w4 A' c4', SlO 38 w4 A' (j + 1) c4' (fun i => if i < j then numF .i32 (upN s.nv j) i else .int .i32 (x : Int)) → (∀ k, onB A' k → onB q1.As k ∨ (w2.alloc (.cells #[.int .i32 (x : Int)] 38)).heap.size ≤ k) →
          Kf (fun k => onB q1.As k) (w2.alloc (.cells #[.int .i32 (x : Int)] 38)) w4 → w4.cell? ⟨q.bk, 4, none⟩ = some (.slice q1.As j q1.cs) ∧ w4.frozen? ⟨q.bk, 4, none⟩ = false ∧ FetP w q s (j + 1) (w4.setCell ⟨q.bk, 4, none⟩ (.slice A' (j + 1) c4')) ∧ spN q.bk (w4.setCell ⟨q.bk, 4, none⟩ (.slice A' (j + 1) c4')) = j + 1) := fun w4 A' c4' a1 a2 a3 => by
        have hl : ({ s with S := upN s.nv j, nv := x } : KnS).S.length = j := upN_len _ _
        have hp := k1.spare (Wx := w2.alloc (.cells #[.int .i32 (x : Int)] 38)) (w4 := w4) (x := x) (c4 := c4') (A' := A') ((Below.refl _ _).alloc (Nat.le_refl _) _) (by rw [hl]; exact a1) a2 a3
        rw [hl, ← HBK.out] at hp
        obtain ⟨⟨p1, p2⟩, q', p3, p4⟩ := hp
        have p3' : KnAt (w4.setCell ⟨q.bk, 4, none⟩ (.slice A' (j + 1) c4')) q' { s with S := upN s.nv (j + 1), nv := s.nv + (j + 1) } := by
          rw [upN_succ, ← Nat.add_assoc, ← hx]; exact p3
        have hto := H2.out.trans (k2.trans p4)
        refine ⟨p1, p2, ⟨q', p3', hto⟩, ?_⟩
        have := p3'.cells.2.2.2.2.1
        rw [hto.bk] at this
        unfold spN; rw [this]; exact upN_len _ _
      have hw32 : IntKind.i32.wrap (x : Int) = (x : Int) := by
        have : ∀ n : Int, IntKind.i32.wrap n = (n + 2147483648) % 4294967296 - 2147483648 := fun n => by simp [IntKind.wrap, IntKind.bits, IntKind.signed]; omega
        rw [this]; omega
      clear k1 k2 hx hx3 HV H2 HBK c1 c4
      go_wp2_with (at_builtin; refine wpList_append_o _ rfl _ _ 60 38 rfl Try.underlying60 info_klit rfl (by decide) q1.As j q1.cs (numF .i32 (upN s.nv j)) rfl hsl.out (by omega) ⟨w2.heap.size, 0, none⟩ 1 (.int .i32 (x : Int)) rfl (by rw [Lib.cell_of_heap (blk_new w2 _)]; rfl) rfl rfl ?_)
      intro A' c4' w4 a1 a2 a3
      obtain ⟨p1, p2, p3, p4⟩ := HF.out w4 A' c4' a1 (fun k hk => (a2 k hk).imp id (fun e => by simpa using e)) (a3 _ fun j hj => hj)
      have HP3 := Lib.hid p3
      have HP4 := Lib.hid p4
      clear a1 a2 a3 HF hsl p3 p4
      go_wp2_with fail
      go_roundw
      case rel => exact ⟨j + 1, by omega, HP4.out, HP3⟩
      case measure => rw [HP4.out, HSP.out]; omega
    · obtain rfl : j = many := by omega
      have tj : decide ((j : Int) < (j : Int)) = false := decide_eq_false (by omega)
      have tj2 : decide (j < j) = false := decide_eq_false (by omega)
      rw [hbk] at c1 c4
      clear h1 h2 cf hbk
      go_wp2_with fail
      go_ret
      exact ⟨rfl, HP.out⟩
set_option maxHeartbeats 3200000 in
/-- The sink has no variable left. -/
theorem kfetch_no (h : KnAt w q s) (hS : s.S = []) (many : Nat) (h0 : 0 < many) (hM : s.M ≤ s.nv) :
    Calls Try.prog 38 #[.pointer (some ⟨q.bk, 0, none⟩), .int .i64 (many : Int)] w fun e w' => e = .returned (.bool false) ∧ Below w.heap.size w w' := by
  obtain ⟨_, c1, _, _, c4, _⟩ := h.cells
  rw [hS] at c4
  have c4 : w.cell? ⟨q.bk, 4, none⟩ = some (.slice q.As 0 q.cs) := c4
  have HV := Lib.hid (svar_no h hM)
  have mv := meth_kvar
  have tj : decide (0 < (many : Int)) = true := decide_eq_true (by omega)
  have tj2 : decide (0 < many) = true := decide_eq_true h0
  clear h hS hM
  go_enter Try.func38, Try.ntmps38
  go_wp2_with fail
  go_loopw [5] (fun _ wr => w = wr) (fun _ _ => 0)
  case atStart => rfl
  case round =>
    subst hrel
    go_wp2_with fail
    refine HV.out.mono ?_
    rintro e w2 ⟨rfl, hb⟩
    have HB := Lib.hid hb
    clear hb HV c1 c4
    go_wp2_with fail
    go_ret
    exact ⟨rfl, HB.out⟩
end
end Go.Proofs.Ytmiifhclcknhdaa
