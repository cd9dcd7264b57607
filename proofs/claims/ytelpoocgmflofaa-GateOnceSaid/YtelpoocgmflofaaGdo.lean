/- A law's act in memory: do. -/
import Derived.Test.YtelpoocgmflofaaGsta
import Derived.StillTailTactics
namespace Go.Proofs.Ytelpoocgmflofaa
open Go.RowKit GatM

/-- The rows that do gathers: n1 edges, n2 tables. -/
def ArAt (W0 : World) (n1 n2 : Nat) (L Ts : List Nat) (g1 c1 g2 c2 : Nat) (wr : World) : Prop :=
  L.length = n1 ∧ Ts.length = n2 ∧ RowV 25 1 wr g1 n1 c1 (numF .u32 L) ∧ RowV 99 1 wr g2 n2 c2 (numF .u64 Ts) ∧ W0.heap.size ≤ g1 ∧ W0.heap.size ≤ g2 ∧ Below W0.heap.size W0 wr
theorem RowV.apart {U V : TypeId} {a b : Nat} {w : World} {g h n m c d : Nat} {f f' : Nat → Value} (h1 : RowV U a w g n c f) (h2 : RowV V b w h m d f') (hne : U ≠ V) : g ≠ h := by
  obtain ⟨x, h3, _⟩ := h1
  obtain ⟨y, h4, _⟩ := h2
  exact Go.Proofs.Ytelpoocgmflofaa.apart h3 h4 hne
section
variable {W0 wr Wx w4 : World} {n1 n2 g1 c1 g2 c2 g4 c4 x : Nat} {L Ts : List Nat}
theorem ArAt.pushL (h : ArAt W0 n1 n2 L Ts g1 c1 g2 c2 wr) (hb : Below wr.heap.size wr Wx) (hr : RowV 25 1 w4 g4 (n1 + 1) c4 (appV (numF .u32 L) n1 [.int .u32 (x : Int)]))
    (hg : onB (some ⟨g1, 0, none⟩) g4 ∨ Wx.heap.size ≤ g4) (hk : Kf (fun j => onB (some ⟨g1, 0, none⟩) j) Wx w4) : ArAt W0 (n1 + 1) n2 (L ++ [x]) Ts g4 c4 g2 c2 w4 := by
  obtain ⟨a1, a2, a3, a4, a5, a6, a7⟩ := h
  have hs := hb.size
  have hl : (L ++ [x]).length = n1 + 1 := by simp [a1]
  have hne := a3.apart a4 (by decide)
  refine ⟨hl, a2, hr.congr fun j hj => ?_, a4.same ?_, ?_, a6, (a7.trans (hb.mono a7.size)).trans (hk.below (by have := a7.size; omega) fun j hj => by rw [onB_some] at hj; have hj : j = g1 := hj; omega)⟩
  · have := numF_app (k := .u32) (l := L) (x := x) (j := j) (by rw [hl]; omega)
    rwa [Nat.mul_one, a1] at this
  · rw [hk.block g2 (Nat.lt_of_lt_of_le a4.lt hs) (fun e => by rw [onB_some] at e; exact hne e.symm), hb.block g2 a4.lt]
  · rcases hg with e | e
    · rw [onB_some] at e; have e : g4 = g1 := e; omega
    · have := a7.size; omega
theorem ArAt.pushT (h : ArAt W0 n1 n2 L Ts g1 c1 g2 c2 wr) (hb : Below wr.heap.size wr Wx) (hr : RowV 99 1 w4 g4 (n2 + 1) c4 (appV (numF .u64 Ts) n2 [.int .u64 (x : Int)]))
    (hg : onB (some ⟨g2, 0, none⟩) g4 ∨ Wx.heap.size ≤ g4) (hk : Kf (fun j => onB (some ⟨g2, 0, none⟩) j) Wx w4) : ArAt W0 n1 (n2 + 1) L (Ts ++ [x]) g1 c1 g4 c4 w4 := by
  obtain ⟨a1, a2, a3, a4, a5, a6, a7⟩ := h
  have hs := hb.size
  have hl : (Ts ++ [x]).length = n2 + 1 := by simp [a2]
  have hne := a3.apart a4 (by decide)
  refine ⟨a1, hl, a3.same ?_, hr.congr fun j hj => ?_, a5, ?_, (a7.trans (hb.mono a7.size)).trans (hk.below (by have := a7.size; omega) fun j hj => by rw [onB_some] at hj; have hj : j = g2 := hj; omega)⟩
  · rw [hk.block g1 (Nat.lt_of_lt_of_le a3.lt hs) (fun e => by rw [onB_some] at e; exact hne e), hb.block g1 a3.lt]
  · have := numF_app (k := .u64) (l := Ts) (x := x) (j := j) (by rw [hl]; omega)
    rwa [Nat.mul_one, a2] at this
  · rcases hg with e | e
    · rw [onB_some] at e; have e : g4 = g2 := e; omega
    · have := a7.size; omega
/-- Behind the append of a number that was boxed. -/
theorem ArAt.appL (h : ArAt W0 n1 n2 L Ts g1 c1 g2 c2 wr) : ∀ (x : Nat) (w4 : World) (g4 c4 : Nat), RowV 25 1 w4 g4 (n1 + 1) c4 (appV (numF .u32 L) n1 [.int .u32 (x : Int)]) → (onB (some ⟨g1, 0, none⟩) g4 ∨ wr.heap.size + 1 ≤ g4) → Kf (fun j => onB (some ⟨g1, 0, none⟩) j) (wr.alloc (.cells #[.int .u32 (x : Int)] 25)) w4 → ArAt W0 (n1 + 1) n2 (L ++ [x]) Ts g4 c4 g2 c2 w4 :=
  fun _ _ _ _ p q r => h.pushL ((Below.refl _ _).alloc (Nat.le_refl _) _) p (by rcases q with e | e; exact .inl e; exact .inr (by simpa using e)) r
theorem ArAt.appT (h : ArAt W0 n1 n2 L Ts g1 c1 g2 c2 wr) : ∀ (x : Nat) (w4 : World) (g4 c4 : Nat), RowV 99 1 w4 g4 (n2 + 1) c4 (appV (numF .u64 Ts) n2 [.int .u64 (x : Int)]) → (onB (some ⟨g2, 0, none⟩) g4 ∨ wr.heap.size + 1 ≤ g4) → Kf (fun j => onB (some ⟨g2, 0, none⟩) j) (wr.alloc (.cells #[.int .u64 (x : Int)] 99)) w4 → ArAt W0 n1 (n2 + 1) L (Ts ++ [x]) g1 c1 g4 c4 w4 :=
  fun _ _ _ _ p q r => h.pushT ((Below.refl _ _).alloc (Nat.le_refl _) _) p (by rcases q with e | e; exact .inl e; exact .inr (by simpa using e)) r
end
def lenV : Value → Nat
  | .slice _ n _ => n
  | _ => 0
theorem pad_more {l : List Nat} {x m : Nat} (h : l.length ≤ m) : l ++ List.replicate (m + 1 - l.length) x = (l ++ List.replicate (m - l.length) x) ++ [x] := by
  rw [List.append_assoc, show m + 1 - l.length = (m - l.length) + 1 by omega, List.replicate_succ']
theorem ztake_map {ps : List Int} {f : Int → Nat} {j : Nat} (h : j < ps.length) : (ps.take (j + 1)).map f = (ps.take j).map f ++ [f (ps.getD j 0)] := by
  rw [List.take_succ_eq_append_getElem h, List.map_append]; simp [List.getD, List.getElem?_eq_getElem h]
theorem umax : IntKind.u64.max = 18446744073709551615 := rfl
theorem argE_in {gs : Gs} {E : List Nat} (h : AllIn gs E) (h0 : 0 < E.length) (hp : 0 < gs.length) (ps : List Int) : AllIn gs (argE E ps) := fun x hx => by
  unfold argE padL at hx
  rcases List.mem_append.1 hx with q | q
  · obtain ⟨p, _, rfl⟩ := List.mem_map.1 q
    unfold pickL
    exact in_get h (clamp_lt h0 p)
  · rw [(List.mem_replicate.1 q).2]; exact hp
theorem argT_u64 {T : List Nat} (h : U64 T) (h0 : 2 ≤ T.length) (ps : List Int) : U64 (argT T ps) := fun x hx => by
  unfold argT padL at hx
  rcases List.mem_append.1 hx with q | q
  · obtain ⟨p, _, rfl⟩ := List.mem_map.1 q
    unfold pickL
    exact h _ (nmem.2 ⟨_, clamp_lt (by omega) p, rfl⟩)
  · rw [(List.mem_replicate.1 q).2]; exact h _ (nmem.2 ⟨1, by omega, rfl⟩)
set_option maxHeartbeats 12800000 in
set_option maxRecDepth 100000 in
theorem gdo_any {B : Nat} {w0 w : World} {k : MkrC} {c : GrC} {gs : Gs} {E T : List Nat} (h : Mkr B w0 w k c gs E T) (hlen : T.length = E.length) (h2 : 2 ≤ E.length) (hin : AllIn gs E) (hu : U64 T) (hE : E.length ≤ 1000) (hG : gs.length ≤ 60000)
    (kind : Int) (Ap : Option Addr) (np cp : Nat) (ps : List Int) (hp : Rd .i64 w w.heap.size Ap np ps) (hnp : np ≤ 10) :
    Calls Try.prog 31 #[.pointer (some ⟨k.bk, 0, none⟩), .agg #[.int .i64 kind, .slice Ap np cp]] w fun e w' => e = .returned (.bool true) ∧ ∃ k' c', MkrTo B w0 w w' k k' c c' (actG gs kind (argE E ps)).2 (E ++ [(actG gs kind (argE E ps)).1]) (T ++ [actT kind (argT T ps)]) := by
  obtain ⟨W0, hW0⟩ : ∃ W0, W0 = w.alloc (.cells #[.int .i64 kind, .slice Ap np cp] 61) := ⟨_, rfl⟩
  have hb0 : Below w.heap.size w W0 := by rw [hW0]; exact (Below.refl _ _).alloc (Nat.le_refl _) _
  have hbx0 : W0.heap[w.heap.size]? = some (.cells #[.int .i64 kind, .slice Ap np cp] 61 (0, 0)) := by rw [hW0]; exact blk_new w _
  obtain ⟨ge, hAe, hre⟩ := SlV.row h.mk'.er (by omega)
  obtain ⟨gt, hAt, hrt⟩ := SlV.row h.mk'.tr (by omega)
  have HX : Hid (∀ V, Below W0.heap.size W0 V → V.cell? ⟨w.heap.size, 0, none⟩ = some (.int .i64 kind) ∧ V.cell? ⟨w.heap.size, 1, none⟩ = some (.slice Ap np cp) ∧ V.cell? ⟨k.bk, 0, none⟩ = some (.pointer (some ⟨c.bg, 0, none⟩)) ∧ V.cell? ⟨k.bk, 1, none⟩ = some (.slice (some ⟨ge, 0, none⟩) E.length k.ce) ∧ V.cell? ⟨k.bk, 2, none⟩ = some (.slice (some ⟨gt, 0, none⟩) E.length k.ct) ∧
      (∀ q, q < E.length → V.cell? ⟨ge, q, none⟩ = some (.int .u32 ((E.getD q 0 : Nat) : Int))) ∧ (∀ q, q < E.length → V.cell? ⟨gt, q, none⟩ = some (.int .u64 ((T.getD q 0 : Nat) : Int))) ∧ Rd .i64 V V.heap.size Ap np ps ∧ Mkr B w0 V k c gs E T ∧ Below w.heap.size w V) := fun V hV => by
    have hbV : Below w.heap.size w V := hb0.trans (hV.mono hb0.size)
    have e0 : V.heap[w.heap.size]? = some (.cells #[.int .i64 kind, .slice Ap np cp] 61 (0, 0)) := by rw [hV.block _ (lt_of_heap hbx0)]; exact hbx0
    have hM := h.below hbV
    obtain ⟨p0, p1, p2, _⟩ := hM.mk'.cells
    rw [hAe] at p1
    rw [hAt, hlen] at p2
    refine ⟨by rw [Lib.cell_of_heap e0]; rfl, by rw [Lib.cell_of_heap e0]; rfl, p0, p1, p2, fun q hq => ?_, fun q hq => ?_, (hp.below hbV).more hbV.size, hM, hbV⟩
    · have := (hre.same (hbV.block ge hre.lt)).cell (show q < E.length * 1 by omega)
      exact this
    · have := (hrt.same (hbV.block gt hrt.lt)).cell (show q < T.length * 1 by omega)
      exact this
  have HOW : Hid (∀ j, c.own j → j < W0.heap.size) := fun j hj => Nat.lt_of_lt_of_le (h.lv.at_.lt hj) hb0.size
  have HAR0 : Hid (ArAt W0 0 0 [] [] W0.heap.size 0 (W0.heap.size + 1) 0 ((W0.alloc (.cells #[] 25)).alloc (.cells #[] 99))) := by
    refine ⟨rfl, rfl, ?_, ?_, Nat.le_refl _, Nat.le_succ _, ((Below.refl _ _).alloc (Nat.le_refl _) _).alloc (by simp) _⟩
    · exact (RowV.made (w := W0) (C := #[]) (by omega) rfl fun j hj => by omega).alloc _
    · have := RowV.made (T := 99) (k := 1) (w := W0.alloc (.cells #[] 25)) (n := 0) (C := #[]) (f := numF .u64 []) (by omega) rfl fun j hj => by omega
      simpa using this
  have HPL := Lib.hid hp.len
  have HLN := Lib.hid hlen
  have hin2 := argE_in hin (by omega) h.lv.wf.pos ps
  have hut2 := argT_u64 hu (by omega) ps
  obtain ⟨L, hL⟩ : ∃ L, L = argE E ps := ⟨_, rfl⟩
  obtain ⟨Ts, hTs⟩ : ∃ Ts, Ts = argT T ps := ⟨_, rfl⟩
  rw [← hL] at hin2 ⊢
  rw [← hTs] at hut2 ⊢
  obtain ⟨X, hX⟩ : ∃ X, X = (actG gs kind L).1 := ⟨_, rfl⟩
  obtain ⟨G2, hG2⟩ : ∃ G2, G2 = (actG gs kind L).2 := ⟨_, rfl⟩
  obtain ⟨tt, htt⟩ : ∃ tt, tt = actT kind Ts := ⟨_, rfl⟩
  rw [← hX, ← htt, ← hG2]
  have HIN := Lib.hid hin2
  have HUT := Lib.hid hut2
  have HLe := Lib.hid hL
  have HTse := Lib.hid hTs
  have HXe := Lib.hid hX
  have HGe := Lib.hid hG2
  have HTe := Lib.hid htt
  clear hin2 hut2 hL hTs hX hG2 htt
  have HW0 := Lib.hid hW0
  have hmE := hre.bd
  have hmT := hrt.bd
  clear h hin hu hp hb0 hbx0 hre hrt hW0 hAe hAt hlen
  go_enter Try.func31, Try.ntmps31
  go_upto_region 1 with (fail)
  rw [← HW0.out]
  obtain ⟨x0, x1, x2, x3, x4, y5, y6, _⟩ := HX.out W0 (Below.refl _ _)
  clear y5 y6
  go_upto_region 3 with (fail)
  obtain ⟨W1, hW1⟩ : ∃ W1, W1 = (W0.alloc (.cells #[] 25)).alloc (.cells #[] 99) := ⟨_, rfl⟩
  rw [← hW1] at HAR0 ⊢
  clear hW1 x0 x1 x2 x3 x4
  obtain ⟨x0, x1, y2, y3, y4, y5, y6, _⟩ := HX.out W1 HAR0.out.2.2.2.2.2.2
  clear y2 y3 y4 y5 y6
  go_wp2_with fail
  clear x0 x1
  go_loopw [5, 6, 18] (fun u5 u6 i wr => ∃ (j g1 c1 g2 c2 : Nat), i = .int .i64 (j : Int) ∧ u5 = .slice (some ⟨g1, 0, none⟩) j c1 ∧ u6 = .slice (some ⟨g2, 0, none⟩) j c2 ∧ j ≤ np ∧ Hid (ArAt W0 j j ((ps.take j).map (pickL E)) ((ps.take j).map (pickL T)) g1 c1 g2 c2 wr)) (fun _ _ i _ => np - (intOf i).toNat)
  case atStart => exact ⟨0, W0.heap.size, 0, W0.heap.size + 1, 0, rfl, rfl, rfl, Nat.zero_le _, HAR0⟩
  case round =>
    obtain ⟨j, g1, c1, g2, c2, rfl, rfl, rfl, hj, hA⟩ := hrel
    clear HAR0
    by_cases hlt : j < np
    · have tk : decide ((j : Int) < (np : Int)) = true := decide_eq_true (by omega)
      have tk2 : decide (j < np) = true := decide_eq_true hlt
      obtain ⟨x0, x1, x2, x3, x4, y5, y6, hR, _⟩ := HX.out wr hA.out.2.2.2.2.2.2
      obtain ⟨b, o, rfl, hb, hcp⟩ := hR.get hlt
      have hjl : j < ps.length := by have := HPL.out; omega
      obtain ⟨q, hq⟩ : ∃ q, q = clampZ E.length (ps.getD j 0) := ⟨_, rfl⟩
      have hql : q < E.length := by rw [hq]; exact clamp_lt (by omega) _
      have hy : max 0 (min (ps.getD j 0) ((E.length : Int) - 1)) = (q : Int) := by rw [hq]; unfold clampZ; omega
      have HSE : Hid ((ps.take (j + 1)).map (pickL E) = (ps.take j).map (pickL E) ++ [E.getD q 0]) := by unfold Hid; rw [ztake_map hjl]; unfold pickL; rw [hq]
      have HST : Hid ((ps.take (j + 1)).map (pickL T) = (ps.take j).map (pickL T) ++ [T.getD q 0]) := by unfold Hid; rw [ztake_map hjl]; unfold pickL; rw [hq, HLN.out]
      have x5 := y5 q hql
      clear y5 y6
      have tq : decide ((E.length : Int) ≤ (q : Int)) = false := decide_eq_false (by omega)
      have tq2 : decide (E.length ≤ q) = false := decide_eq_false (by omega)
      generalize ps.getD j 0 = p at *
      clear hq hR
      have HSL1 : Hid (∀ z : Value, SlV 25 1 (wr.alloc (.cells #[z] 25)) (some ⟨g1, 0, none⟩) j c1 (numF .u32 ((ps.take j).map (pickL E)))) := fun z => .inr ⟨g1, rfl, hA.out.2.2.1.alloc _⟩
      have HAP := Lib.hid (hA.out.appL (E.getD q 0))
      generalize (ps.take j).map (pickL E) = Lj at *
      generalize (ps.take j).map (pickL T) = Tj at *
      generalize hxe : E.getD q 0 = xe at *
      clear hxe
      obtain ⟨xt, hxt⟩ : ∃ xt, xt = T.getD q 0 := ⟨_, rfl⟩
      rw [← hxt] at HST
      have HXT : Hid (T.getD q 0 = xt) := hxt.symm
      clear hxt
      go_wp2_with (at_builtin; refine wpList_append_sl _ rfl _ _ 26 25 rfl Try.underlying26 info_edge rfl (by decide) (by decide) (some ⟨g1, 0, none⟩) j c1 (numF .u32 Lj) rfl (HSL1.out _) (by omega) ⟨wr.heap.size, 0, none⟩ 1 1 [.int .u32 (xe : Int)] rfl rfl (box_news wr 25 _) (by simp [Value.oneCell']) (by omega) (by omega) ?_)
      intro g3 c3 w3 hr3 hg3 hk3
      have hA3 := HAP.out w3 g3 c3 (by simpa using hr3) (by rcases hg3 with e | e; exact .inl e; exact .inr (by simpa using e)) (hk3 _ fun j hj => hj)
      clear x0 x1 x2 x3 x4 x5 hr3 hg3 hk3 HSL1 HAP
      obtain ⟨x0, x1, x2, x3, x4, y5, y6, _⟩ := HX.out w3 hA3.2.2.2.2.2.2
      have x6 := y6 q hql
      clear y5 y6
      have HSL2 : Hid (∀ z : Value, SlV 99 1 (w3.alloc (.cells #[z] 99)) (some ⟨g2, 0, none⟩) j c2 (numF .u64 Tj)) := fun z => .inr ⟨g2, rfl, hA3.2.2.2.1.alloc _⟩
      have HAP := Lib.hid (hA3.appT xt)
      rw [HXT.out] at x6
      clear hA3
      go_wp2_with (at_builtin; refine wpList_append_sl _ rfl _ _ 63 99 rfl Try.underlying63 info_u64 rfl (by decide) (by decide) (some ⟨g2, 0, none⟩) j c2 (numF .u64 Tj) rfl (HSL2.out _) (by omega) ⟨w3.heap.size, 0, none⟩ 1 1 [.int .u64 (xt : Int)] rfl rfl (box_news w3 99 _) (by simp [Value.oneCell']) (by omega) (by omega) ?_)
      intro g4 c4 w4 hr4 hg4 hk4
      have hA4 := Lib.hid (HAP.out w4 g4 c4 (by simpa using hr4) (by rcases hg4 with e | e; exact .inl e; exact .inr (by simpa using e)) (hk4 _ fun j hj => hj))
      clear x0 x1 x2 x3 x4 x6 hr4 hg4 hk4 HSL2 HAP
      go_wp2_with fail
      go_roundw
      case rel => exact ⟨j + 1, g3, c3, g4, c4, by go_num, rfl, rfl, by omega, by rw [HSE.out, HST.out]; exact hA4⟩
      case measure => simp [intOf]; omega
    · have tk : decide ((j : Int) < (np : Int)) = false := decide_eq_false (by omega)
      have tk2 : decide (j < np) = false := decide_eq_false hlt
      obtain rfl : j = np := by omega
      obtain ⟨L0, hL0⟩ : ∃ L0, L0 = ps.map (pickL E) := ⟨_, rfl⟩
      obtain ⟨T0, hT0⟩ : ∃ T0, T0 = ps.map (pickL T) := ⟨_, rfl⟩
      have HA0 : Hid (ArAt W0 j j (L0 ++ List.replicate (j - L0.length) 1) (T0 ++ List.replicate (j - T0.length) (T.getD 1 0)) g1 c1 g2 c2 wr) := by
        have := hA.out
        rw [List.take_of_length_le (by have := HPL.out; omega)] at this
        have e1 : L0.length = j := by rw [hL0, List.length_map]; exact HPL.out
        have e2 : T0.length = j := by rw [hT0, List.length_map]; exact HPL.out
        rw [e1, e2, Nat.sub_self, List.replicate_zero, List.append_nil, List.replicate_zero, List.append_nil, hL0, hT0]
        exact this
      have HL0 := Lib.hid hL0
      have HT0 := Lib.hid hT0
      have HLL : Hid (L0.length = j ∧ T0.length = j) := ⟨by rw [hL0, List.length_map]; exact HPL.out, by rw [hT0, List.length_map]; exact HPL.out⟩
      clear hA hL0 hT0 hlt tk tk2 hj
      go_wp2_with fail
      obtain ⟨wo, rfl⟩ : ∃ wo : World, wo = wr := ⟨_, rfl⟩
      go_loopw [5, 6] (fun u5 u6 wr => ∃ (m g1 c1 g2 c2 : Nat), u5 = .slice (some ⟨g1, 0, none⟩) m c1 ∧ u6 = .slice (some ⟨g2, 0, none⟩) m c2 ∧ j ≤ m ∧ m ≤ max 3 j ∧ Hid (ArAt W0 m m (L0 ++ List.replicate (m - L0.length) 1) (T0 ++ List.replicate (m - T0.length) (T.getD 1 0)) g1 c1 g2 c2 wr)) (fun u5 _ _ => 3 - lenV u5)
      case atStart => exact ⟨j, g1, c1, g2, c2, rfl, rfl, Nat.le_refl _, by omega, HA0⟩
      case round =>
        obtain ⟨m, g1, c1, g2, c2, rfl, rfl, hjm, hm3, hA⟩ := hrel
        clear HA0
        by_cases hlt : m < 3
        · have tk : decide ((m : Int) < 3) = true := decide_eq_true (by omega)
          have tk2 : decide (m < 3) = true := decide_eq_true hlt
          have HP1 : Hid (L0 ++ List.replicate (m + 1 - L0.length) 1 = (L0 ++ List.replicate (m - L0.length) 1) ++ [1]) := pad_more (by have := HLL.out.1; omega)
          have HP2 : Hid (T0 ++ List.replicate (m + 1 - T0.length) (T.getD 1 0) = (T0 ++ List.replicate (m - T0.length) (T.getD 1 0)) ++ [T.getD 1 0]) := pad_more (by have := HLL.out.2; omega)
          have HSL1 : Hid (SlV 25 1 (wr.alloc (.cells #[.int .u32 1] 25)) (some ⟨g1, 0, none⟩) m c1 (numF .u32 (L0 ++ List.replicate (m - L0.length) 1))) := .inr ⟨g1, rfl, hA.out.2.2.1.alloc _⟩
          obtain ⟨t1, ht1⟩ : ∃ t1, t1 = T.getD 1 0 := ⟨_, rfl⟩
          rw [← ht1] at hA
          have HAP := Lib.hid (hA.out.appL 1)
          have HX6 : Hid (∀ V, Below W0.heap.size W0 V → V.cell? ⟨k.bk, 2, none⟩ = some (.slice (some ⟨gt, 0, none⟩) E.length k.ct) ∧ V.cell? ⟨gt, 1, none⟩ = some (.int .u64 (t1 : Int))) := fun V hV => by
            obtain ⟨_, _, _, _, x4, _, y6, _⟩ := HX.out V hV
            exact ⟨x4, by rw [ht1]; exact y6 1 (by omega)⟩
          rw [← ht1] at HP2
          have hE1 : decide ((E.length : Int) ≤ 1) = false := decide_eq_false (by omega)
          have hE2 : decide (E.length ≤ 1) = false := decide_eq_false (by omega)
          have HT1E := Lib.hid ht1
          clear ht1
          generalize L0 ++ List.replicate (m - L0.length) 1 = Lj at *
          generalize T0 ++ List.replicate (m - T0.length) t1 = Tj at *
          go_wp2_with (at_builtin; refine wpList_append_sl _ rfl _ _ 26 25 rfl Try.underlying26 info_edge rfl (by decide) (by decide) (some ⟨g1, 0, none⟩) m c1 (numF .u32 Lj) rfl HSL1.out (by omega) ⟨wr.heap.size, 0, none⟩ 1 1 [.int .u32 1] rfl rfl (box_news wr 25 _) (by simp [Value.oneCell']) (by omega) (by omega) ?_)
          intro g3 c3 w3 hr3 hg3 hk3
          have hA3 := HAP.out w3 g3 c3 (by simpa using hr3) (by rcases hg3 with e | e; exact .inl e; exact .inr (by simpa using e)) (hk3 _ fun j hj => hj)
          obtain ⟨x4, x6⟩ := HX6.out w3 hA3.2.2.2.2.2.2
          have HSL2 : Hid (SlV 99 1 (w3.alloc (.cells #[.int .u64 (t1 : Int)] 99)) (some ⟨g2, 0, none⟩) m c2 (numF .u64 Tj)) := .inr ⟨g2, rfl, hA3.2.2.2.1.alloc _⟩
          have HAP := Lib.hid (hA3.appT t1)
          clear hA3 hr3 hg3 hk3 HSL1
          go_wp2_with (at_builtin; refine wpList_append_sl _ rfl _ _ 63 99 rfl Try.underlying63 info_u64 rfl (by decide) (by decide) (some ⟨g2, 0, none⟩) m c2 (numF .u64 Tj) rfl HSL2.out (by omega) ⟨w3.heap.size, 0, none⟩ 1 1 [.int .u64 (t1 : Int)] rfl rfl (box_news w3 99 _) (by simp [Value.oneCell']) (by omega) (by omega) ?_)
          intro g4 c4 w4 hr4 hg4 hk4
          have hA4 := Lib.hid (HAP.out w4 g4 c4 (by simpa using hr4) (by rcases hg4 with e | e; exact .inl e; exact .inr (by simpa using e)) (hk4 _ fun j hj => hj))
          clear x4 x6 hr4 hg4 hk4 HSL2 HAP HX6
          go_wp2_with fail
          go_roundw
          case rel => exact ⟨m + 1, g3, c3, g4, c4, rfl, rfl, by omega, by omega, by rw [HP1.out, ← HT1E.out, HP2.out]; exact hA4⟩
          case measure => simp [lenV]; omega
        · have tk : decide ((m : Int) < 3) = false := decide_eq_false (by omega)
          have tk2 : decide (m < 3) = false := decide_eq_false hlt
          have HAR : Hid (ArAt W0 m m L Ts g1 c1 g2 c2 wr) := by
            rw [HLe.out, HTse.out]
            have e : m - j = 3 - j := by omega
            have hA := hA.out
            rw [HLL.out.1, HLL.out.2, e, HL0.out, HT0.out] at hA
            unfold Hid argE argT padL
            rw [List.length_map, List.length_map, HPL.out]
            exact hA
          clear hA HL0 HT0 HLL
          have h3m : 3 ≤ m := by omega
          have hm10 : m ≤ 10 := by omega
          obtain ⟨x0, y1, y2, y3, y4, y5, y6, _, hM, hbw⟩ := HX.out wr HAR.out.2.2.2.2.2.2
          clear y1 y2 y3 y4 y5 y6
          have HM := Lib.hid hM
          have HBW := Lib.hid hbw
          clear hM hbw HX
          go_upto_block 4 with (fail)
          clear x0
          go_cut [10, 11, 12] (fun a b d W => a = .int .u32 (X : Int) ∧ b = .int .i64 0 ∧ d = .int .u64 (tt : Int) ∧ Hid (∃ c', LvTo B w0 wr W c c' G2))
          case first =>
            have hrE := HAR.out.2.2.1
            have hrT := HAR.out.2.2.2.1
            have hLl : L.length = m := HAR.out.1
            have hTl : Ts.length = m := HAR.out.2.1
            have HRL : Hid (∀ V, Below wr.heap.size wr V → RdN .u32 V V.heap.size (some ⟨g1, 0, none⟩) m L) := fun V hV => ⟨hLl, fun _ => ⟨g1, 0, rfl, Nat.lt_of_lt_of_le hrE.lt hV.size, fun j hj => by rw [Nat.zero_add]; exact (hrE.same (hV.block g1 hrE.lt)).cell (by omega)⟩⟩
            have HRT : Hid (∀ W c' G', LvTo B w0 wr W c c' G' → (∀ j, j < m → W.cell? ⟨g2, j, none⟩ = some (.int .u64 ((Ts.getD j 0 : Nat) : Int))) ∧ RdN .u64 W W.heap.size (some ⟨g2, 0, none⟩) m Ts) := fun W c' G' hT => by
              have hr := hrT.same (hT.gst g2 hrT.lt (fun ho => by have := HOW.out g2 ho; have := HAR.out.2.2.2.2.2.1; omega)).1
              have hc : ∀ j, j < m → W.cell? ⟨g2, j, none⟩ = some (.int .u64 ((Ts.getD j 0 : Nat) : Int)) := fun j hj => hr.cell (by omega)
              exact ⟨hc, ⟨hTl, fun _ => ⟨g2, 0, rfl, hr.lt, fun j hj => by rw [Nat.zero_add]; exact hc j hj⟩⟩⟩
            have HFR : Hid (∀ j, onB (some ⟨g1, 0, none⟩) j → ¬ c.own j) := fun j hj ho => by
              rw [onB_some] at hj
              have hj : j = g1 := hj
              have := HOW.out j ho
              have := HAR.out.2.2.2.2.1
              omega
            obtain ⟨y0, _, _, _⟩ := HM.out.mk'.cells
            by_cases k0 : kind = 0
            · have t0 : (kind == 0) = true := by rw [beq_iff_eq]; exact k0
              have HAN := Lib.hid (HM.out.lv.and (some ⟨g1, 0, none⟩) m c1 L (HRL.out wr (Below.refl _ _)) HFR.out HIN.out (by omega))
              have HE1 : Hid ((andG gs L).1 = X ∧ (andG gs L).2 = G2) := by unfold Hid; rw [HXe.out, HGe.out]; unfold actG; rw [if_pos k0]; exact ⟨rfl, rfl⟩
              have HE2 : Hid (allT Ts = tt) := by unfold Hid; rw [HTe.out]; unfold actT; rw [if_pos k0]
              rw [HE1.out.1, HE1.out.2] at HAN
              clear k0 HE1 hrE hrT hLl hTl
              go_wp2_with fail
              refine HAN.out.mono ?_
              rintro e w2 ⟨rfl, c2', hT⟩
              have HAL := Lib.hid (tall_any (some ⟨g2, 0, none⟩) m c2 Ts w2 (HRT.out w2 c2' _ hT).2 HUT.out (by omega))
              rw [HE2.out] at HAL
              have HT := Lib.hid hT
              clear hT HRT HAN y0
              go_wp2_with fail
              refine HAL.out.mono ?_
              rintro e w3 ⟨rfl, rfl⟩
              go_wp2_with fail
              go_meet
              exact ⟨rfl, rfl, rfl, Lib.hid ⟨c2', HT.out⟩⟩
            have t0 : (kind == 0) = false := by rw [beq_eq_false_iff_ne]; exact k0
            by_cases k1 : kind = 1
            · have t1 : (kind == 1) = true := by rw [beq_iff_eq]; exact k1
              have HAN := Lib.hid (HM.out.lv.or (some ⟨g1, 0, none⟩) m c1 L (HRL.out wr (Below.refl _ _)) HIN.out (by omega))
              have HE1 : Hid ((orG gs L).1 = X ∧ (orG gs L).2 = G2) := by unfold Hid; rw [HXe.out, HGe.out]; unfold actG; rw [if_neg k0, if_pos k1]; exact ⟨rfl, rfl⟩
              have HE2 : Hid (someT Ts = tt) := by unfold Hid; rw [HTe.out]; unfold actT; rw [if_neg k0, if_pos k1]
              rw [HE1.out.1, HE1.out.2] at HAN
              clear k0 k1 HE1 hrE hrT hLl hTl
              go_wp2_with fail
              refine HAN.out.mono ?_
              rintro e w2 ⟨rfl, c2', hT⟩
              have HAL := Lib.hid (tsome_any (some ⟨g2, 0, none⟩) m c2 Ts w2 (HRT.out w2 c2' _ hT).2 HUT.out (by omega))
              rw [HE2.out] at HAL
              have HT := Lib.hid hT
              clear hT HRT HAN y0
              go_wp2_with fail
              refine HAL.out.mono ?_
              rintro e w3 ⟨rfl, rfl⟩
              go_wp2_with fail
              go_meet
              exact ⟨rfl, rfl, rfl, Lib.hid ⟨c2', HT.out⟩⟩
            have t1 : (kind == 1) = false := by rw [beq_eq_false_iff_ne]; exact k1
            have e0 : wr.cell? ⟨g1, 0, none⟩ = some (.int .u32 ((L.getD 0 0 : Nat) : Int)) := hrE.cell (by omega)
            have e1 : wr.cell? ⟨g1, 1, none⟩ = some (.int .u32 ((L.getD 1 0 : Nat) : Int)) := hrE.cell (by omega)
            have e2 : wr.cell? ⟨g1, 2, none⟩ = some (.int .u32 ((L.getD 2 0 : Nat) : Int)) := hrE.cell (by omega)
            have a0 := in_get HIN.out (show 0 < L.length by omega)
            have a1 := in_get HIN.out (show 1 < L.length by omega)
            have a2 := in_get HIN.out (show 2 < L.length by omega)
            have u0 : Ts.getD 0 0 < 18446744073709551616 := HUT.out _ (nmem.2 ⟨0, by omega, rfl⟩)
            have u1 : Ts.getD 1 0 < 18446744073709551616 := HUT.out _ (nmem.2 ⟨1, by omega, rfl⟩)
            have u2 : Ts.getD 2 0 < 18446744073709551616 := HUT.out _ (nmem.2 ⟨2, by omega, rfl⟩)
            have HT3 : Hid (∀ W c' G', LvTo B w0 wr W c c' G' → W.cell? ⟨g2, 0, none⟩ = some (.int .u64 ((Ts.getD 0 0 : Nat) : Int)) ∧ W.cell? ⟨g2, 1, none⟩ = some (.int .u64 ((Ts.getD 1 0 : Nat) : Int)) ∧ W.cell? ⟨g2, 2, none⟩ = some (.int .u64 ((Ts.getD 2 0 : Nat) : Int))) := fun W c' G' hT => by
              have := (HRT.out W c' G' hT).1
              exact ⟨this 0 (by omega), this 1 (by omega), this 2 (by omega)⟩
            have b0 : decide ((m : Int) ≤ 0) = false := decide_eq_false (by omega)
            have b1 : decide ((m : Int) ≤ 1) = false := decide_eq_false (by omega)
            have b2 : decide ((m : Int) ≤ 2) = false := decide_eq_false (by omega)
            have b3 : decide (m ≤ 1) = false := decide_eq_false (by omega)
            have b4 : decide (m ≤ 2) = false := decide_eq_false (by omega)
            have hm0 : 0 < m := by omega
            have hm1 : 1 < m := by omega
            have hm2 : 2 < m := by omega
            have hi0 : (0 : Int) < (m : Int) := by omega
            have hi1 : (1 : Int) < (m : Int) := by omega
            have hi2 : (2 : Int) < (m : Int) := by omega
            have hbd := Below.refl wr.heap.size wr
            have hbd := hbd.drew
            by_cases k2 : kind = 2
            · have t2 : (kind == 2) = true := by rw [beq_iff_eq]; exact k2
              have hsm := (HM.out.lv.below hbd).same_ (L.getD 0 0) (L.getD 1 0) a0 a1 (by omega)
              have HE1 : Hid ((sameG gs (L.getD 0 0) (L.getD 1 0)).1 = X ∧ (sameG gs (L.getD 0 0) (L.getD 1 0)).2 = G2) := by unfold Hid; rw [HXe.out, HGe.out]; unfold actG; rw [if_neg k0, if_neg k1, if_pos k2]; exact ⟨rfl, rfl⟩
              have HE2 : Hid (notT (Ts.getD 0 0 ^^^ Ts.getD 1 0) = tt) := by unfold Hid; rw [HTe.out]; unfold actT; rw [if_neg k0, if_neg k1, if_pos k2]
              rw [HE1.out.1, HE1.out.2] at hsm
              have HSM := Lib.hid hsm
              have HX1 : Hid (bits .xor .u64 ((Ts.getD 0 0 : Nat) : Int) ((Ts.getD 1 0 : Nat) : Int) = ((Ts.getD 0 0 ^^^ Ts.getD 1 0 : Nat) : Int)) := bits_xor_u64_nat _ _ u0 u1
              have HX2 : Hid (bits .xor .u64 18446744073709551615 ((Ts.getD 0 0 ^^^ Ts.getD 1 0 : Nat) : Int) = (tt : Int)) := by
                have := bits_xor_u64_nat 18446744073709551615 (Ts.getD 0 0 ^^^ Ts.getD 1 0) (by decide) (xor_lt64 u0 u1)
                unfold Hid
                rw [← HE2.out]
                exact this
              generalize Ts.getD 0 0 ^^^ Ts.getD 1 0 = xx at *
              generalize L.getD 0 0 = l0 at *
              generalize L.getD 1 0 = l1 at *
              generalize Ts.getD 0 0 = s0 at *
              generalize Ts.getD 1 0 = s1 at *
              have HK : Hid (∀ W c', LvTo B w0 wr.drew W c c' G2 → W.cell? ⟨k.bk, 0, none⟩ = some (.pointer (some ⟨c.bg, 0, none⟩)) ∧ W.cell? ⟨g1, 0, none⟩ = some (.int .u32 (l0 : Int)) ∧ W.cell? ⟨g1, 1, none⟩ = some (.int .u32 (l1 : Int))) := fun W c' hT => by
                have q1 := (hT.gst k.bk (HM.out.mk'.lt (.inl rfl)) (HM.out.ap _ (.inl rfl)).1).1
                have q2 := (hT.gst g1 hrE.lt (HFR.out g1 ((onB_some _ _).2 rfl))).1
                exact ⟨(World.cell?_of_block (a := ⟨k.bk, 0, none⟩) q1).trans y0, (World.cell?_of_block (a := ⟨g1, 0, none⟩) q2).trans e0, (World.cell?_of_block (a := ⟨g1, 1, none⟩) q2).trans e1⟩
              have HPR : Hid (∀ W c', LvTo B w0 wr.drew W c c' G2 → LvTo B w0 wr W c c' G2) := fun W c' hT => LvTo.pre hbd hT
              clear k0 k1 k2 HE1 HE2 hrE hrT hLl hTl hsm e2 a0 a1 a2 u0 u1 u2 HRT HRL HFR
              go_upto_region 25 with (fail)
              go_region_held3 (fun W => W.cell? ⟨k.bk, 0, none⟩ = some (.pointer (some ⟨c.bg, 0, none⟩)) ∧ W.cell? ⟨g1, 0, none⟩ = some (.int .u32 (l0 : Int)) ∧ W.cell? ⟨g1, 1, none⟩ = some (.int .u32 (l1 : Int)))
                (first | exact HK.out _ _ (by assumption) | exact ⟨y0, e0, e1⟩)
                (first | (go_at_call 59; with_reducible refine HSM.out.mono ?_; rintro e w2 ⟨rfl, c2', hT⟩))
              all_goals
                have hT0 := HPR.out _ _ hT
                obtain ⟨z0, z1, _⟩ := HT3.out _ _ _ hT0
                have HTT := Lib.hid hT0
                have HX1 := HX1.out
                have HX2 := HX2.out
                clear hT hT0 HSM HK HPR HT3 y0 e0 e1
                go_upto_region 26 with (fail)
                go_quiet (fail)
                go_wp2_with fail
                go_meet
                exact ⟨rfl, rfl, by rw [umax, HX2], Lib.hid ⟨c2', HTT.out.dN _⟩⟩
            have t2 : (kind == 2) = false := by rw [beq_eq_false_iff_ne]; exact k2
            by_cases k3 : kind = 3
            · have t3 : (kind == 3) = true := by rw [beq_iff_eq]; exact k3
              have hsm := (HM.out.lv.below hbd).if_ (L.getD 0 0) (L.getD 1 0) (L.getD 2 0) a0 a1 a2 (by omega)
              have HE1 : Hid ((ifG gs (L.getD 0 0) (L.getD 1 0) (L.getD 2 0)).1 = X ∧ (ifG gs (L.getD 0 0) (L.getD 1 0) (L.getD 2 0)).2 = G2) := by unfold Hid; rw [HXe.out, HGe.out]; unfold actG; rw [if_neg k0, if_neg k1, if_neg k2, if_pos k3]; exact ⟨rfl, rfl⟩
              have HE2 : Hid ((Ts.getD 0 0 &&& Ts.getD 1 0) ||| (notT (Ts.getD 0 0) &&& Ts.getD 2 0) = tt) := by unfold Hid; rw [HTe.out]; unfold actT; rw [if_neg k0, if_neg k1, if_neg k2, if_pos k3]
              rw [HE1.out.1, HE1.out.2] at hsm
              have HSM := Lib.hid hsm
              have HX1 : Hid (bits .and .u64 ((Ts.getD 0 0 : Nat) : Int) ((Ts.getD 1 0 : Nat) : Int) = ((Ts.getD 0 0 &&& Ts.getD 1 0 : Nat) : Int)) := bits_and_u64_nat _ _ u0 u1
              have HX2 : Hid (bits .xor .u64 18446744073709551615 ((Ts.getD 0 0 : Nat) : Int) = ((notT (Ts.getD 0 0) : Nat) : Int)) := bits_xor_u64_nat 18446744073709551615 _ (by decide) u0
              have HX3 : Hid (bits .and .u64 ((notT (Ts.getD 0 0) : Nat) : Int) ((Ts.getD 2 0 : Nat) : Int) = ((notT (Ts.getD 0 0) &&& Ts.getD 2 0 : Nat) : Int)) := bits_and_u64_nat _ _ (notT_lt u0) u2
              have HX4 : Hid (bits .or .u64 ((Ts.getD 0 0 &&& Ts.getD 1 0 : Nat) : Int) ((notT (Ts.getD 0 0) &&& Ts.getD 2 0 : Nat) : Int) = (tt : Int)) := by
                have := bits_or_u64_nat (Ts.getD 0 0 &&& Ts.getD 1 0) (notT (Ts.getD 0 0) &&& Ts.getD 2 0) (and_lt64 u0) (and_lt64 (notT_lt u0))
                unfold Hid
                rw [← HE2.out]
                exact this
              generalize notT (Ts.getD 0 0) &&& Ts.getD 2 0 = x3 at *
              generalize Ts.getD 0 0 &&& Ts.getD 1 0 = x1 at *
              generalize notT (Ts.getD 0 0) = n0 at *
              generalize L.getD 0 0 = l0 at *
              generalize L.getD 1 0 = l1 at *
              generalize L.getD 2 0 = l2 at *
              generalize Ts.getD 0 0 = s0 at *
              generalize Ts.getD 1 0 = s1 at *
              generalize Ts.getD 2 0 = s2 at *
              have HK : Hid (∀ W c', LvTo B w0 wr.drew W c c' G2 → W.cell? ⟨k.bk, 0, none⟩ = some (.pointer (some ⟨c.bg, 0, none⟩)) ∧ W.cell? ⟨g1, 0, none⟩ = some (.int .u32 (l0 : Int)) ∧ W.cell? ⟨g1, 1, none⟩ = some (.int .u32 (l1 : Int)) ∧ W.cell? ⟨g1, 2, none⟩ = some (.int .u32 (l2 : Int))) := fun W c' hT => by
                have q1 := (hT.gst k.bk (HM.out.mk'.lt (.inl rfl)) (HM.out.ap _ (.inl rfl)).1).1
                have q2 := (hT.gst g1 hrE.lt (HFR.out g1 ((onB_some _ _).2 rfl))).1
                exact ⟨(World.cell?_of_block (a := ⟨k.bk, 0, none⟩) q1).trans y0, (World.cell?_of_block (a := ⟨g1, 0, none⟩) q2).trans e0, (World.cell?_of_block (a := ⟨g1, 1, none⟩) q2).trans e1, (World.cell?_of_block (a := ⟨g1, 2, none⟩) q2).trans e2⟩
              have HPR : Hid (∀ W c', LvTo B w0 wr.drew W c c' G2 → LvTo B w0 wr W c c' G2) := fun W c' hT => LvTo.pre hbd hT
              clear k0 k1 k2 k3 HE1 HE2 hrE hrT hLl hTl hsm a0 a1 a2 u0 u1 u2 HRT HRL HFR
              go_upto_region 28 with (fail)
              go_region_held3 (fun W => W.cell? ⟨k.bk, 0, none⟩ = some (.pointer (some ⟨c.bg, 0, none⟩)) ∧ W.cell? ⟨g1, 0, none⟩ = some (.int .u32 (l0 : Int)) ∧ W.cell? ⟨g1, 1, none⟩ = some (.int .u32 (l1 : Int)) ∧ W.cell? ⟨g1, 2, none⟩ = some (.int .u32 (l2 : Int)))
                (first | exact HK.out _ _ (by assumption) | exact ⟨y0, e0, e1, e2⟩)
                (first | (go_at_call 60; with_reducible refine HSM.out.mono ?_; rintro e w2 ⟨rfl, c2', hT⟩))
              all_goals
                have hT0 := HPR.out _ _ hT
                obtain ⟨z0, z1, z2⟩ := HT3.out _ _ _ hT0
                have HTT := Lib.hid hT0
                have HX1 := HX1.out
                have HX2 := HX2.out
                have HX3 := HX3.out
                have HX4 := HX4.out
                clear hT hT0 HSM HK HPR HT3 y0 e0 e1 e2
                go_upto_region 29 with (fail)
                go_quiet (fail)
                go_wp2_with fail
                go_meet
                exact ⟨rfl, rfl, by rw [umax, HX2, HX3, HX4], Lib.hid ⟨c2', HTT.out.dN _⟩⟩
            have t3 : (kind == 3) = false := by rw [beq_eq_false_iff_ne]; exact k3
            have hsm := gnot_any (HM.out.lv.below hbd).at_ (L.getD 0 0) (by omega)
            rw [if_pos a0] at hsm
            have HE1 : Hid (turnE (L.getD 0 0) = X ∧ gs = G2) := by unfold Hid; rw [HXe.out, HGe.out]; unfold actG; rw [if_neg k0, if_neg k1, if_neg k2, if_neg k3]; exact ⟨rfl, rfl⟩
            have HE2 : Hid (notT (Ts.getD 0 0) = tt) := by unfold Hid; rw [HTe.out]; unfold actT; rw [if_neg k0, if_neg k1, if_neg k2, if_neg k3]
            rw [HE1.out.1] at hsm
            have HSM := Lib.hid hsm
            have HX2 : Hid (bits .xor .u64 18446744073709551615 ((Ts.getD 0 0 : Nat) : Int) = (tt : Int)) := by
              have := bits_xor_u64_nat 18446744073709551615 _ (by decide) u0
              unfold Hid
              rw [← HE2.out]
              exact this
            have HPR : Hid (∀ W, Below wr.drew.heap.size wr.drew W → LvTo B w0 wr W c c G2) := fun W hb => by
              rw [← HE1.out.2]
              exact LvTo.ofBelow HM.out.lv (hbd.trans hb)
            have HK : Hid (∀ W, Below wr.drew.heap.size wr.drew W → W.cell? ⟨k.bk, 0, none⟩ = some (.pointer (some ⟨c.bg, 0, none⟩)) ∧ W.cell? ⟨g1, 0, none⟩ = some (.int .u32 ((L.getD 0 0 : Nat) : Int))) := fun W hb => by
              have hb := hbd.trans hb
              exact ⟨(hb.cell (p := ⟨k.bk, 0, none⟩) (HM.out.mk'.lt (.inl rfl))).trans y0, (hb.cell (p := ⟨g1, 0, none⟩) hrE.lt).trans e0⟩
            generalize L.getD 0 0 = l0 at *
            generalize L.getD 1 0 = l1 at *
            generalize L.getD 2 0 = l2 at *
            generalize Ts.getD 0 0 = s0 at *
            generalize Ts.getD 1 0 = s1 at *
            generalize Ts.getD 2 0 = s2 at *
            clear k0 k1 k2 k3 HE1 HE2 hrE hrT hLl hTl hsm a0 a1 a2 u0 u1 u2 HRT HRL HFR e1 e2
            go_upto_region 16 with (fail)
            go_region_held3 (fun W => W.cell? ⟨k.bk, 0, none⟩ = some (.pointer (some ⟨c.bg, 0, none⟩)) ∧ W.cell? ⟨g1, 0, none⟩ = some (.int .u32 (l0 : Int)))
              (first | exact HK.out _ (by assumption) | exact ⟨y0, e0⟩)
              (first | (go_at_call 61; with_reducible refine HSM.out.mono ?_; rintro e w2 ⟨rfl, hT⟩))
            all_goals
              have hT0 := HPR.out _ hT
              obtain ⟨z0, z1, z2⟩ := HT3.out _ _ _ hT0
              have HTT := Lib.hid hT0
              have HX2 := HX2.out
              clear hT hT0 HSM HK HPR HT3 y0 e0
              go_wp2_with fail
              go_meet
              exact ⟨rfl, rfl, by rw [umax, HX2], Lib.hid ⟨c, HTT.out⟩⟩
          case rest =>
          obtain ⟨rfl, rfl, rfl, hT⟩ := hcut
          obtain ⟨c', hT'⟩ := hT.out
          have h1 := MkrTo.pre HBW.out (HM.out.graph hT')
          have hTl0 : T.length ≤ 1000 := by rw [HLN.out]; exact hE
          clear hT hT' HAR HM HBW HIN HUT HLe HTse HXe HGe HTe HPL HOW HLN
          obtain ⟨_, y1, _, _⟩ := h1.at_.mk'.cells
          have hkl : k.bk < wc.heap.size := h1.at_.mk'.lt (.inl rfl)
          have hb3 : Below wc.heap.size wc (wc.alloc (.cells #[.int .u32 (X : Int)] 25)) := (Below.refl _ _).alloc (Nat.le_refl _) _
          have HSL : Hid (SlV 25 1 (wc.alloc (.cells #[.int .u32 (X : Int)] 25)) k.Ae E.length k.ce (numF .u32 E)) := SlV.below h1.at_.mk'.er hb3
          have HPE : Hid (∀ w4 g4 c4, RowV 25 1 w4 g4 (E.length + 1) c4 (appV (numF .u32 E) E.length [.int .u32 (X : Int)]) → (onB k.Ae g4 ∨ (wc.alloc (.cells #[.int .u32 (X : Int)] 25)).heap.size ≤ g4) → Kf (fun j => onB k.Ae j) (wc.alloc (.cells #[.int .u32 (X : Int)] 25)) w4 →
              w4.cell? ⟨k.bk, 1, none⟩ = some (.slice k.Ae E.length k.ce) ∧ w4.frozen? ⟨k.bk, 1, none⟩ = false ∧ MkrTo B w0 w (w4.setCell ⟨k.bk, 1, none⟩ (.slice (some ⟨g4, 0, none⟩) (E.length + 1) c4)) k { k with Ae := some ⟨g4, 0, none⟩, ce := c4 } c c' G2 (E ++ [X]) T) := fun w4 g4 c4 a1 a2 a3 => by
            obtain ⟨⟨p1, p2⟩, p3⟩ := h1.at_.addE ((Below.refl _ _).alloc (Nat.le_refl _) _) a1 a2 a3
            exact ⟨p1, p2, h1.trans p3⟩
          clear h1 hb3
          go_wp2_with (at_builtin; refine wpList_append_sl _ rfl _ _ 26 25 rfl Try.underlying26 info_edge rfl (by decide) (by decide) k.Ae E.length k.ce (numF .u32 E) rfl HSL.out (by omega) ⟨wc.heap.size, 0, none⟩ 1 1 [.int .u32 (X : Int)] rfl rfl (box_news wc 25 _) (by simp [Value.oneCell']) (by omega) (by omega) ?_)
          intro g3 c3 w3 hr3 hg3 hk3
          obtain ⟨d0, d2, hF⟩ := HPE.out w3 g3 c3 (by simpa using hr3) (by rcases hg3 with e | e; exact .inl e; exact .inr (by simpa using e)) (hk3 _ fun j hj => hj)
          obtain ⟨w4, hw4⟩ : ∃ w4, w4 = w3.setCell ⟨k.bk, 1, none⟩ (.slice (some ⟨g3, 0, none⟩) (E.length + 1) c3) := ⟨_, rfl⟩
          rw [← hw4] at hF
          have HF := Lib.hid hF
          have HW4 := Lib.hid hw4
          clear hr3 hg3 hk3 HPE HSL hF hw4 y1 hkl
          go_upto_region 31 with (fail)
          rw [← HW4.out]
          clear d0 d2 HW4
          obtain ⟨k2, hk2⟩ : ∃ k2 : MkrC, k2 = { k with Ae := some ⟨g3, 0, none⟩, ce := c3 } := ⟨_, rfl⟩
          have h4 := HF.out
          rw [← hk2] at h4
          have hbk2 : k2.bk = k.bk := by rw [hk2]
          obtain ⟨_, _, x2, _⟩ := h4.at_.mk'.cells
          rw [hbk2] at x2
          have hk4 : k.bk < w4.heap.size := by rw [← hbk2]; exact h4.at_.mk'.lt (.inl rfl)
          have hb5 : Below w4.heap.size w4 (w4.alloc (.cells #[.int .u64 (tt : Int)] 99)) := (Below.refl w4.heap.size w4).alloc (Nat.le_refl _) _
          have HSL : Hid (SlV 99 1 (w4.alloc (.cells #[.int .u64 (tt : Int)] 99)) k2.At T.length k2.ct (numF .u64 T)) := SlV.below h4.at_.mk'.tr hb5
          have HPU : Hid (∀ w5 g5 c5, RowV 99 1 w5 g5 (T.length + 1) c5 (appV (numF .u64 T) T.length [.int .u64 (tt : Int)]) → (onB k2.At g5 ∨ (w4.alloc (.cells #[.int .u64 (tt : Int)] 99)).heap.size ≤ g5) → Kf (fun j => onB k2.At j) (w4.alloc (.cells #[.int .u64 (tt : Int)] 99)) w5 →
              w5.cell? ⟨k.bk, 2, none⟩ = some (.slice k2.At T.length k2.ct) ∧ w5.frozen? ⟨k.bk, 2, none⟩ = false ∧ ∃ k', MkrTo B w0 w (w5.setCell ⟨k.bk, 2, none⟩ (.slice (some ⟨g5, 0, none⟩) (T.length + 1) c5)) k k' c c' G2 (E ++ [X]) (T ++ [tt])) := fun w5 g5 c5 a1 a2 a3 => by
            obtain ⟨⟨p1, p2⟩, p3⟩ := h4.at_.addT hb5 a1 a2 a3
            have p4 := h4.trans p3
            rw [hbk2] at p1 p2 p4
            exact ⟨p1, p2, _, p4⟩
          clear h4 hb5 HF hbk2 hk2
          go_wp2_with (at_builtin; refine wpList_append_sl _ rfl _ _ 63 99 rfl Try.underlying63 info_u64 rfl (by decide) (by decide) k2.At T.length k2.ct (numF .u64 T) rfl HSL.out (by omega) ⟨w4.heap.size, 0, none⟩ 1 1 [.int .u64 (tt : Int)] rfl rfl (box_news w4 99 _) (by simp [Value.oneCell']) (by omega) (by omega) ?_)
          intro g5 c5 w5 hr5 hg5 hk5
          obtain ⟨d0, d2, k', hF⟩ := HPU.out w5 g5 c5 (by simpa using hr5) (by rcases hg5 with e | e; exact .inl e; exact .inr (by simpa using e)) (hk5 _ fun j hj => hj)
          have HF := Lib.hid hF
          clear hr5 hg5 hk5 HPU HSL hF x2 hk4
          go_wp2_with fail
          go_ret
          exact ⟨rfl, k', c', HF.out⟩
end Go.Proofs.Ytelpoocgmflofaa
