/- A Knit's Lit, Hold, Value, New; what has no room; a Knit of a law's own. -/
import Derived.Test.YtmiifhclcknhdaaKntI
namespace Go.Proofs.Ytmiifhclcknhdaa
open Go.RowKit GatM KntM Go.Lib

section
variable {w w' : World} {q : KnC} {c : GrC} {gs : Gs} {M m : Nat} {K : List Nat}
/-- What Lit leaves. -/
def LitTo (w : World) (q : KnC) (c : GrC) (gs : Gs) (M : Nat) (K : List Nat) (x : Nat) (e : Ending) (w' : World) : Prop :=
  ∃ q' D, e = .returned (.tuple #[.int .i32 (lt (K ++ D) x), .int .i64 0]) ∧ KN w' q' c gs M gs.length (K ++ D) ∧ KnTo w w' q q' ∧ x / 2 ∈ K ++ D ∧ (x / 2 ∈ K → D = []) ∧ ∀ y ∈ D, RchK gs [x] y
set_option maxHeartbeats 3200000 in
theorem klit_any (h : KN w q c gs M m K) (hL : gs.length ≤ 1000) (hM : gs.length ≤ M) (hM9 : M ≤ 90000) (x : Nat) (hx : x / 2 < gs.length) :
    Calls Try.prog 10 #[.pointer (some ⟨q.bk, 0, none⟩), .int .u32 (x : Int)] w (LitTo w q c gs M K x) := by
  have hb : Below w.heap.size w (w.alloc (.cells #[.int .u32 (x : Int)] 25)) := (Below.refl _ _).alloc (Nat.le_refl _) _
  have HK := Lib.hid (kknow_any (h.below hb) hL hM hM9 (some ⟨w.heap.size, 0, none⟩) 1 1 [x] (rdn_made .u32 w 25 [x]) (by intro y hy; obtain rfl := List.mem_singleton.1 hy; exact hx) (by omega))
  have HLI : Hid (∀ w2, KnowTo (w.alloc (.cells #[.int .u32 (x : Int)] 25)) q c gs M K [x] w2 → ∃ z, Calls Try.prog 24 #[.pointer (some ⟨q.bk, 0, none⟩), .int .u32 (x : Int)] w2 (fun r w' => r = .returned (.int .i32 z) ∧ LitTo w q c gs M K x (.returned (.tuple #[.int .i32 z, .int .i64 0])) w')) := fun w2 hT => by
    obtain ⟨q2, D, k2, t2, hr, hn, hsn⟩ := hT
    have hl := k2.ok.len
    have hli := kliteral_any k2.at_ x (by omega) (by show x / 2 < gs.length; exact hx) (by show (K ++ D).length ≤ 90000; omega)
    rw [t2.bk] at hli
    refine ⟨lt (K ++ D) x, hli.mono ?_⟩
    rintro r w3 ⟨rfl, hb3⟩
    exact ⟨rfl, q2, D, rfl, k2.below hb3, ((KnTo.ofBelow hb).trans t2).trans (KnTo.ofBelow hb3), hr x (by simp), fun hx2 => hn fun e he => by obtain rfl := List.mem_singleton.1 he; exact hx2, hsn⟩
  clear h hb
  go_enter Try.func10, Try.ntmps10
  go_wp2_with fail
  refine HK.out.mono ?_
  rintro e w2 ⟨rfl, hT⟩
  obtain ⟨z, hz⟩ := HLI.out w2 hT
  have HZ := Lib.hid hz
  clear hT hz HK HLI
  go_wp2_with fail
  refine HZ.out.mono ?_
  rintro e w3 ⟨rfl, hT⟩
  have HT := Lib.hid hT
  clear hT HZ
  go_wp2_with fail
  go_ret2
  exact HT.out
set_option maxHeartbeats 3200000 in
set_option maxRecDepth 100000 in
/-- There is no such gate. -/
theorem kknow_bad (h : KN w q c gs M m K) (A : Option Addr) (cn x : Nat) (hl : RdN .u32 w w.heap.size A 1 [x]) (hx : gs.length ≤ x / 2) (hx9 : x < 4294967296) :
    Calls Try.prog 23 #[.pointer (some ⟨q.bk, 0, none⟩), .slice A 1 cn] w fun e w' => e = .returned (.int .i64 121) ∧ Below w.heap.size w w' := by
  obtain ⟨c0, _⟩ := h.at_.cells
  have c0 : w.cell? ⟨q.bk, 0, none⟩ = some (.pointer (some ⟨c.bg, 0, none⟩)) := c0
  have HLE : Hid (∀ z, Calls Try.prog 15 #[.pointer (some ⟨c.bg, 0, none⟩)] (w.drewN z) fun e w' => e = .returned (.int .i64 (gs.length : Int)) ∧ w' = w.drewN z) := fun z => (glen_any (h.below (below_drewN (Below.refl w.heap.size w) z)).gr).mono fun _ _ ⟨a, b⟩ => ⟨a, b.symm⟩
  have HNX : Hid (∀ W, Calls Try.prog 26 #[.int .u32 (x : Int)] W fun r w' => r = .returned (.int .i64 ((x / 2 : Nat) : Int)) ∧ w' = W) := fun W => (knum_any x W hx9).mono fun _ _ ⟨a, b⟩ => ⟨a, b.symm⟩
  obtain ⟨b, o, rfl, hb, hc⟩ := hl.get (j := 0) (by omega)
  have hc : w.cell? ⟨b, o, none⟩ = some (.int .u32 (x : Int)) := hc
  have tg : decide ((gs.length : Int) ≤ ((x / 2 : Nat) : Int)) = true := decide_eq_true (by omega)
  have tg2 : decide (gs.length ≤ x / 2) = true := decide_eq_true hx
  have HB : Hid (∀ z, Below w.heap.size w (w.drewN z)) := fun z => below_drewN (Below.refl _ _) z
  clear h hl
  generalize x / 2 = xn at *
  generalize gs.length = gl at *
  go_enter Try.func23, Try.ntmps23
  go_wp2_with fail
  go_loopw [13, 6] (fun i _ wr => i = .int .i64 0 ∧ w = wr) (fun _ _ _ => 0)
  case atStart => exact ⟨rfl, rfl⟩
  case round =>
    obtain ⟨rfl, rfl⟩ := hrel
    go_wp2_with fail
    go_upto_region 4 with (fail)
    go_quiet (first | (go_at_call 26; exact Calls.quiet_of_same (HNX.out _)) | (go_at_call 15; exact Calls.quiet_of_same (HLE.out _)))
    go_wp2_with fail
    go_ret
    exact ⟨rfl, HB.out _⟩
set_option maxHeartbeats 3200000 in
set_option maxRecDepth 100000 in
/-- The sink has no variable left. -/
theorem kknow_full (h : KN w q c gs M m K) (hL : gs.length ≤ 1000) (hM : M ≤ K.length) (A : Option Addr) (cn x : Nat) (hl : RdN .u32 w w.heap.size A 1 [x]) (hx : x / 2 < gs.length) (hxK : x / 2 ∉ K) :
    Calls Try.prog 23 #[.pointer (some ⟨q.bk, 0, none⟩), .slice A 1 cn] w fun e w' => e = .returned (.int .i64 121) ∧ Below w.heap.size w w' := by
  have hKl := h.ok.len
  have HH := Lib.hid h
  obtain ⟨c0, _⟩ := h.at_.cells
  have c0 : w.cell? ⟨q.bk, 0, none⟩ = some (.pointer (some ⟨c.bg, 0, none⟩)) := c0
  have HLE : Hid (∀ z, Calls Try.prog 15 #[.pointer (some ⟨c.bg, 0, none⟩)] (w.drewN z) fun e w' => e = .returned (.int .i64 (gs.length : Int)) ∧ w' = w.drewN z) := fun z => (glen_any (h.below (below_drewN (Below.refl w.heap.size w) z)).gr).mono fun _ _ ⟨a, b⟩ => ⟨a, b.symm⟩
  have HNX : Hid (∀ W, Calls Try.prog 26 #[.int .u32 (x : Int)] W fun r w' => r = .returned (.int .i64 ((x / 2 : Nat) : Int)) ∧ w' = W) := fun W => (knum_any x W (by omega)).mono fun _ _ ⟨a, b⟩ => ⟨a, b.symm⟩
  have HU : Hid (∀ W, Below w.heap.size w W → Calls Try.prog 37 #[.pointer (some ⟨q.bk, 0, none⟩), .slice A 1 cn] W (UnkTo gs K [x] W)) := fun W hW => kunknown_any (h.below hW).at_ (h.below hW).gr h.wf rfl (by omega) h.km.2 (show K.length ≤ 90000 by omega) A 1 cn [x] (hl.belo hW) (by intro y hy; obtain rfl := List.mem_singleton.1 hy; exact hx) (by omega)
  obtain ⟨b, o, rfl, hb, hc⟩ := hl.get (j := 0) (by omega)
  have hc : w.cell? ⟨b, o, none⟩ = some (.int .u32 (x : Int)) := hc
  have tg : decide ((gs.length : Int) ≤ ((x / 2 : Nat) : Int)) = false := decide_eq_false (by omega)
  have tg2 : decide (gs.length ≤ x / 2) = false := decide_eq_false (by omega)
  have HB : Hid (∀ z, Below w.heap.size w (w.drewN z)) := fun z => below_drewN (Below.refl _ _) z
  clear h hl
  obtain ⟨xn, hxn⟩ : ∃ xn, xn = x / 2 := ⟨_, rfl⟩
  rw [← hxn] at HNX tg tg2 hxK hx
  have HXN := Lib.hid hxn
  obtain ⟨gl, hgl⟩ : ∃ gl, gl = gs.length := ⟨_, rfl⟩
  rw [← hgl] at HLE tg tg2 hL hKl hx
  clear hxn hgl
  go_enter Try.func23, Try.ntmps23
  go_wp2_with fail
  go_loopw [13, 6] (fun i _ wr => (i = .int .i64 0 ∧ w = wr) ∨ (i = .int .i64 1 ∧ ∃ z, wr = w.drewN z)) (fun i _ _ => 1 - (intOf i).toNat)
  case atStart => exact .inl ⟨rfl, rfl⟩
  case round =>
    rcases hrel with ⟨rfl, rfl⟩ | ⟨rfl, z, rfl⟩
    · go_wp2_with fail
      go_upto_region 4 with (fail)
      go_quiet (first | (go_at_call 26; exact Calls.quiet_of_same (HNX.out _)) | (go_at_call 15; exact Calls.quiet_of_same (HLE.out _)))
      go_wp2_with fail
      go_roundw
      case rel => exact .inr ⟨rfl, _, rfl⟩
      case measure => decide
    · have HUW := Lib.hid (HU.out _ (HB.out z))
      clear HU HLE HNX
      go_wp2_with fail
      refine HUW.out.mono ?_
      rintro e w1 ⟨D, A1, c1, rfl, hD, hDn, hrow, hnew, hb1⟩
      have hbw1 := (HB.out z).trans (hb1.mono (HB.out z).size)
      have h1 := HH.out.below hbw1
      have hD0 : 0 < D.length := by
        rcases hD.rts x (by simp) with e | e
        · rw [← HXN.out] at e; exact absurd e hxK
        · exact List.length_pos_of_mem e
      have HFE := Lib.hid (kfetch_no h1.at_ rfl D.length hD0 (show M ≤ K.length from hM))
      have HB1 := Lib.hid hbw1
      clear hD hDn hrow hnew hb1 hbw1 h1 hD0 HUW
      generalize D.length = dl at *
      go_wp2_with fail
      refine HFE.out.mono ?_
      rintro e w2 ⟨rfl, hb2⟩
      have HB2 := Lib.hid (HB1.out.trans (hb2.mono HB1.out.size))
      clear hb2 HFE
      go_wp2_with fail
      go_ret
      exact ⟨rfl, HB2.out⟩
set_option maxHeartbeats 3200000 in
/-- What know refuses, Lit refuses. -/
theorem klit_no (x : Nat) (bk : Nat) (hk : Calls Try.prog 23 #[.pointer (some ⟨bk, 0, none⟩), .slice (some ⟨w.heap.size, 0, none⟩) 1 1] (w.alloc (.cells #[.int .u32 (x : Int)] 25)) fun e w' => e = .returned (.int .i64 121) ∧ Below w.heap.size (w.alloc (.cells #[.int .u32 (x : Int)] 25)) w') :
    Calls Try.prog 10 #[.pointer (some ⟨bk, 0, none⟩), .int .u32 (x : Int)] w fun e w' => e = .returned (.tuple #[.int .i32 0, .int .i64 121]) ∧ Below w.heap.size w w' := by
  have HK := Lib.hid hk
  have hb : Below w.heap.size w (w.alloc (.cells #[.int .u32 (x : Int)] 25)) := (Below.refl _ _).alloc (Nat.le_refl _) _
  have HB := Lib.hid hb
  clear hk hb
  go_enter Try.func10, Try.ntmps10
  go_wp2_with fail
  refine HK.out.mono ?_
  rintro e w2 ⟨rfl, hb2⟩
  have HB2 := Lib.hid (HB.out.trans hb2)
  clear hb2 HK
  go_wp2_with fail
  go_ret2
  exact ⟨rfl, HB2.out⟩
set_option maxHeartbeats 3200000 in
theorem khold_no (A : Option Addr) (n cn : Nat) (bk : Nat) (hk : Calls Try.prog 23 #[.pointer (some ⟨bk, 0, none⟩), .slice A n cn] w fun e w' => e = .returned (.int .i64 121) ∧ Below w.heap.size w w') :
    Calls Try.prog 11 #[.pointer (some ⟨bk, 0, none⟩), .slice A n cn] w fun e w' => e = .returned (.int .i64 121) ∧ Below w.heap.size w w' := by
  have HK := Lib.hid hk
  clear hk
  go_enter Try.func11, Try.ntmps11
  go_wp2_with fail
  refine HK.out.mono ?_
  rintro e w2 ⟨rfl, hb2⟩
  have HB2 := Lib.hid hb2
  clear hb2 HK
  go_wp2_with fail
  go_ret
  exact ⟨rfl, HB2.out⟩
theorem KN.var_ (h : KN w q c gs M m K) (hL : gs.length ≤ 1000) (n : Nat) (hn : n ≤ 4294967296) :
    Calls Try.prog 16 #[.pointer (some ⟨q.bk, 0, none⟩), .int .i64 (n : Int)] w fun r w' => r = .returned (.int .i64 ((vr K n : Nat) : Int)) ∧ w = w' :=
  kVar_any h.at_ n hn (fun hm hk => by have := h.km.2 n hk; have hm : m ≤ n := hm; omega) (show K.length ≤ 90000 by have := h.ok.len; omega)
theorem KN.known_ (h : KN w q c gs M m K) : Calls Try.prog 20 #[.pointer (some ⟨q.bk, 0, none⟩)] w fun r w' => r = .returned (.int .i64 (K.length : Int)) ∧ w = w' := kKnown_any h.at_
set_option maxHeartbeats 3200000 in
set_option maxRecDepth 100000 in
/-- Of a gate without a variable. -/
theorem kvalue_no (h : KN w q c gs M m K) (hL : gs.length ≤ 1000) (V : Option Addr) (nv cv x : Nat) (hx9 : x < 4294967296) (hxK : x / 2 ∉ K) :
    Calls Try.prog 12 #[.pointer (some ⟨q.bk, 0, none⟩), .slice V nv cv, .int .u32 (x : Int)] w fun e w' => e = .returned (.tuple #[.bool false, .bool false]) ∧ w = w' := by
  have HN := Lib.hid (knum_any x w hx9)
  have HV := Lib.hid (h.var_ hL (x / 2) (by omega))
  rw [vr_zero hxK] at HV
  clear h hxK
  generalize x / 2 = xn at *
  go_enter Try.func12, Try.ntmps12
  go_wp2_with fail
  refine HN.out.mono ?_
  rintro e w' ⟨rfl, rfl⟩
  go_wp2_with fail
  refine HV.out.mono ?_
  rintro e w' ⟨rfl, rfl⟩
  go_wp2_with fail
  go_ret2
  exact ⟨rfl, rfl⟩
set_option maxHeartbeats 3200000 in
set_option maxRecDepth 100000 in
/-- What an edge says in a model. -/
theorem kvalue_yes (h : KN w q c gs M m K) (hL : gs.length ≤ 1000) (V : Option Addr) (nv cv : Nat) (bs : List Bool) (hv : RdO w w.heap.size V nv bs) (hnv : nv ≤ 90000) (x : Nat) (hx9 : x < 4294967296) (h1 : 1 ≤ vr K (x / 2)) (h2 : vr K (x / 2) ≤ nv) :
    Calls Try.prog 12 #[.pointer (some ⟨q.bk, 0, none⟩), .slice V nv cv, .int .u32 (x : Int)] w fun e w' => e = .returned (.tuple #[.bool (bs.getD (vr K (x / 2) - 1) false != odd x), .bool true]) ∧ Below w.heap.size w w' := by
  have HN := Lib.hid (knum_any x w hx9)
  have HV := Lib.hid (h.var_ hL (x / 2) (by omega))
  have HT : Hid (∀ W, Calls Try.prog 27 #[.int .u32 (x : Int)] W fun e w' => e = .returned (.bool (odd x)) ∧ w' = W) := fun W => (kturned_any x W hx9).mono fun _ _ ⟨a, b⟩ => ⟨a, b.symm⟩
  obtain ⟨b, o, rfl, hb, hc⟩ := hv.get (j := vr K (x / 2) - 1) (by omega)
  have HB : Hid (∀ z, Below w.heap.size w (w.drewN z)) := fun z => below_drewN (Below.refl _ _) z
  clear h hv
  generalize bs.getD (vr K (x / 2) - 1) false = bv at *
  generalize vr K (x / 2) = v at *
  generalize x / 2 = xn at *
  obtain ⟨v1, rfl⟩ : ∃ v1, v = v1 + 1 := ⟨v - 1, by omega⟩
  have e1 : v1 + 1 - 1 = v1 := by omega
  rw [e1] at hc
  have t0 : ((v1 : Int) + 1 == 0) = false := by rw [beq_eq_false_iff_ne]; omega
  have t1 : decide ((nv : Int) < (v1 : Int) + 1) = false := decide_eq_false (by omega)
  have t3 : decide ((nv : Int) ≤ (v1 : Int)) = false := decide_eq_false (by omega)
  have t4 : decide (nv ≤ v1) = false := decide_eq_false (by omega)
  generalize odd x = ob at *
  go_enter Try.func12, Try.ntmps12
  go_wp2_with fail
  refine HN.out.mono ?_
  rintro e w' ⟨rfl, rfl⟩
  go_wp2_with fail
  refine HV.out.mono ?_
  rintro e w' ⟨rfl, rfl⟩
  clear HN HV
  go_upto_region 4 with (fail)
  go_quiet ((go_at_call 27; exact Calls.quiet_of_same (HT.out _)))
  go_wp2_with fail
  go_ret2
  exact ⟨rfl, HB.out _⟩
end
end Go.Proofs.Ytmiifhclcknhdaa
