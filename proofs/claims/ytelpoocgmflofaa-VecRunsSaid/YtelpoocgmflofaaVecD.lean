/- The maker's differences and products, in memory. -/
import Derived.Test.YtelpoocgmflofaaVecC
namespace Go.Proofs.Ytelpoocgmflofaa
open Go.RowKit GatM VecM

section
variable {B : Nat} {w0 w : World} {c : GrC} {gs : Gs} {b : Nat}
set_option maxHeartbeats 1600000 in
theorem vdiff_any (h : LvG B w0 w c gs) (hm : VMk w c b) {A D : Option Addr} {n m cn cm : Nat} {la lb : List Nat} (hla : VcAt w c A n la) (hlb : VcAt w c D m lb) (hia : AllIn gs la) (hib : AllIn gs lb) (hn : gs.length ≤ 50000) (hnn : n ≤ 90) (hmm : m ≤ 90) :
    Calls Try.prog 47 #[.pointer (some ⟨b, 0, none⟩), .slice A n cn, .slice D m cm] w (VecTo B w0 w c gs (max n m + 1) (16 * (max n m + 1)) (Cst la ∧ Cst lb) fun vals => valE vals gs la - valE vals gs lb) := by
  have H1 := Lib.hid (vturn_any h hm hla hia (cn := cn) (by omega) (by omega))
  have HM := Lib.hid hm
  have HA := Lib.hid hla
  have HD := Lib.hid hlb
  have HIA := Lib.hid hia
  have HIB := Lib.hid hib
  have HN : Hid (gs.length ≤ 50000 ∧ n ≤ 90 ∧ m ≤ 90) := ⟨hn, hnn, hmm⟩
  clear h hm hla hlb hia hib hn hnn hmm
  go_enter Try.func47, Try.ntmps47
  go_wp2_with fail
  refine H1.out.mono ?_
  rintro e w1 ⟨g1, k1, l1, gs1, c1, rfl, hk1, hr1, hT1, hv1, hn1⟩
  have HR1 := Lib.hid hr1
  have HT1 := Lib.hid hT1
  have H2 := Lib.hid (vsum_any hT1.lv (HM.out.to hT1) (cn := k1) (cm := cm) hv1 (HD.out.to hT1) hr1.inn (HIB.out.ex hr1.ex) (by have := hr1.len; have := HN.out; omega) (by have := HN.out; omega) (by have := HN.out; omega))
  clear hr1 hT1 hv1 hn1 H1 hk1
  go_wp2_with fail
  refine H2.out.mono ?_
  rintro e w2 ⟨g2, k2, l2, gs2, c2, rfl, hk2, hr2, hT2, hv2, hn2⟩
  have HR2 := Lib.hid hr2
  have hT2' := HT1.out.trans hT2
  have HT2 := Lib.hid hT2'
  have H3 := Lib.hid (vturn_any hT2.lv (HM.out.to hT2') hv2 hr2.inn (cn := k2) (by have := hr2.len; have := HR1.out.len; have := HN.out; omega) (by have := HN.out; omega))
  have HS1 : Hid (w.heap.size ≤ w2.heap.size) := hT2'.size
  clear hr2 hT2 hv2 hn2 H2 hk2 hT2'
  go_wp2_with fail
  refine H3.out.mono ?_
  rintro e w3 ⟨g3, k3, l3, gs3, c3, rfl, hk3, hr3, hT3, hv3, hn3⟩
  have HE : Hid (VecTo B w0 w c gs (max n m + 1) (16 * (max n m + 1)) (Cst la ∧ Cst lb) (fun vals => valE vals gs la - valE vals gs lb) (.returned (.slice (some ⟨g3, 0, none⟩) (max n m + 1) k3)) w3) := by
    have h1 := HR1.out
    have h2 := HR2.out
    refine ⟨g3, k3, l3, gs3, c3, rfl, hk3, ⟨hr3.wf, h1.ex.trans (h2.ex.trans hr3.ex), hr3.inn, by have := h1.len; have := h2.len; have := hr3.len; omega, hr3.ll, fun q => ?_, fun vals => ?_⟩, HT2.out.trans hT3, hv3, Nat.le_trans HS1.out hn3⟩
    · obtain ⟨a1, b1⟩ := h1.cst q.1
      obtain ⟨a2, b2⟩ := h2.cst ⟨b1, q.2⟩
      obtain ⟨a3, b3⟩ := hr3.cst b2
      exact ⟨a3.trans (a2.trans a1), b3⟩
    · rw [hr3.val, h2.val, h1.val, valE_ex h1.ex HIB.out (by have := HD.out.len; have := HD.out.pos; omega)]
      omega
  clear hr3 hT3 hv3 hn3 H3 hk3
  go_wp2_with fail
  go_ret
  exact HE.out
end
/-- make of none of so many edges. -/
theorem make_room (n : Nat) (hn : n ≤ 1000) : ∃ C : Array Value, C.size = n * 1 ∧ ∀ w : World, (Instr.makeSlice 27 (.int .i64 0) (.int .i64 (n : Int))).run Try.prog w = .ok (.slice (some ⟨w.heap.size, 0, none⟩) 0 n) (w.alloc (.cells C 25)) := by
  obtain ⟨i0, hi, hz0, hz1, hz2⟩ := info_parts info_vec
  refine ⟨madeCells (Value.int .u32 0).cells (n * i0.size), by rw [size_madeCells, hz1], fun w => ?_⟩
  have := run_makeSlice (P := Try.prog) (w := w) 27 25 i0 (.int .u32 0) Try.underlying27 hi hz0 .i64 .i64 (0 : Int) (n : Int) (by omega) (by omega) (by rw [hz1]; simp; omega) (by rw [hz2]; omega) (by omega)
  simpa using this
section
variable {B : Nat} {w0 w w1 w2 : World} {c c1 : GrC} {gs gs1 : Gs} {b : Nat}
/-- Behind a change of blocks that aren't the circuit's. -/
theorem LvTo.kf (h : LvTo B w0 w w1 c c1 gs1) {G : Nat → Prop} (hk : Kf G w1 w2) (hG : ∀ x, G x → ¬ c1.own x ∧ w.heap.size ≤ x) (hB : B ≤ w.heap.size) : LvTo B w0 w w2 c c1 gs1 :=
  ⟨⟨h.lv.at_.same fun k ho => hk.block k (h.lv.at_.lt ho) fun q => (hG k q).1 ho, h.lv.wf, h.lv.be.trans (hk.below h.lv.hB fun x q => Nat.le_trans hB (hG x q).2), h.lv.lo, Nat.le_trans h.lv.hB hk.size⟩, h.bg, fun k hl hn => by
    obtain ⟨a1, a2⟩ := h.gst k hl hn
    exact ⟨(hk.block k (Nat.lt_of_lt_of_le hl h.size) fun q => by have := (hG k q).2; omega).trans a1, a2⟩, Nat.le_trans h.size hk.size⟩
end
theorem pshift {vals : List Bool} {gs : Gs} {Q : List Nat} {n : Nat} (hl : Q.length = n + 1) (hn : 0 < n) : valE vals gs Q = (if sayE vals gs (Q.getD 0 0) then 1 else 0) + 2 * valE vals gs (Q.drop 1) := by
  obtain ⟨j, rfl⟩ : ∃ j, n = j + 1 := ⟨n - 1, by omega⟩
  have hd : (Q.drop 1).length = j + 1 := by simp [hl]
  have e1 : valE vals gs Q = nB (fun i => sayE vals gs (Q.getD i 0)) (j + 1 + 1) := by
    rw [valE_of (f := fun i => sayE vals gs (Q.getD i 0)) (by omega) fun i _ => rfl, hl]
  have e2 : valE vals gs (Q.drop 1) = nB (fun i => sayE vals gs (Q.getD (i + 1) 0)) (j + 1) := by
    rw [valE_of (f := fun i => sayE vals gs (Q.getD (i + 1) 0)) (by omega) fun i _ => by rw [List.getD, List.getElem?_drop, Nat.add_comm]; rfl, hd]
  rw [e1, e2, nB_shift]
/-- What the product has done so far: k of its bits, and the rest. -/
structure PrK (gs gk : Gs) (P R : List Nat) (k n m : Nat) (C : Prop) (la lb : List Nat) : Prop where
  wf : Wf gk
  ex : Ex gs gk
  inP : AllIn gk P
  inR : AllIn gk R
  lP : P.length = k
  lR : R.length = n
  len : gk.length ≤ gs.length + k * (18 * (n + 1))
  cst : C → gk = gs ∧ Cst P ∧ Cst R
  val : ∀ vals, uN (fun i => sayE vals gk (P.getD i 0)) k + pw k * valE vals gk R = if k < m then valE vals gs la * uN (bitE vals gs lb) k else valE vals gs la * valE vals gs lb
section
variable {gs gk g1 g2 : Gs} {P R W Q la lb : List Nat} {k n m : Nat} {C : Prop}
theorem PrK.start (h : Wf gs) (hn : 0 < n) (hm : 0 < m) : PrK gs gs [] (List.replicate n 0) 0 n m C la lb := by
  have hz : ∀ vals, valE vals gs (List.replicate n 0) = 0 := fun vals => by
    rw [valE_of (f := fun _ => false) (by rw [List.length_replicate]; exact hn) fun i hi => by
      rw [List.length_replicate] at hi
      rw [List.getD, List.getElem?_replicate, if_pos hi]
      exact say_false h, List.length_replicate, nB_false]
  refine ⟨h, Ex.refl _, fun x hx => absurd hx List.not_mem_nil, fun x hx => ?_, rfl, List.length_replicate, by omega, fun _ => ⟨rfl, fun x hx => absurd hx List.not_mem_nil, fun x hx => ?_⟩, fun vals => ?_⟩
  · rw [(List.mem_replicate.1 hx).2]; exact h.pos
  · rw [(List.mem_replicate.1 hx).2]; exact Nat.zero_lt_two
  · rw [hz, if_pos hm, Int.mul_zero]
    show (0 : Int) + 0 = valE vals gs la * 0
    rw [Int.mul_zero]; rfl
theorem PrK.step {C1 C2 : Prop} {e K1 K2 : Nat} (h : PrK gs gk P R k n m C la lb) (hn : 0 < n) (hk : k < m) (he : lb.getD k 0 = e) (hlb : lb.length = m) (hin : e / 2 < gs.length) (hla : AllIn gs la) (hla0 : 0 < la.length)
    (hw : ResL gk g1 W n K1 C1 fun vals => if sayE vals gk e then valE vals gk la else 0) (hq : ResL g1 g2 Q (n + 1) K2 C2 fun vals => if k + 1 < m then valE vals g1 R + valE vals g1 W else valE vals g1 R - valE vals g1 W)
    (hK : K1 + K2 ≤ 18 * (n + 1)) (hc1 : C → C1) (hc2 : Cst R → Cst W → C2) : PrK gs g2 (P ++ [Q.getD 0 0]) (Q.drop 1) (k + 1) n m C la lb := by
  have hq0 : Q.getD 0 0 ∈ Q := nmem.2 ⟨0, by rw [hq.ll]; omega, rfl⟩
  have hx : Ex gk g2 := hw.ex.trans hq.ex
  have hdr : ∀ x ∈ Q.drop 1, x ∈ Q := fun x hx => List.mem_of_mem_drop hx
  refine ⟨hq.wf, h.ex.trans hx, fun x hx' => ?_, fun x hx' => hq.inn x (hdr x hx'), by rw [List.length_append, h.lP]; rfl, by rw [List.length_drop, hq.ll]; rfl, ?_, fun c => ?_, fun vals => ?_⟩
  · rcases List.mem_append.1 hx' with q | q
    · exact h.inP.ex hx x q
    · rw [List.mem_singleton] at q; rw [q]; exact hq.inn _ hq0
  · have h1 := h.len
    have h2 := hw.len
    have h3 := hq.len
    rw [Nat.add_mul, Nat.one_mul]
    omega
  · obtain ⟨a1, b1, c1⟩ := h.cst c
    obtain ⟨a2, b2⟩ := hw.cst (hc1 c)
    obtain ⟨a3, b3⟩ := hq.cst (hc2 c1 b2)
    refine ⟨a3.trans (a2.trans a1), fun x hx' => ?_, fun x hx' => b3 x (hdr x hx')⟩
    rcases List.mem_append.1 hx' with q | q
    · exact b1 x q
    · rw [List.mem_singleton] at q; rw [q]; exact b3 _ hq0
  · have hv := h.val vals
    rw [if_pos hk] at hv
    have hR : valE vals g1 R = valE vals gk R := valE_ex hw.ex h.inR (by rw [h.lR]; exact hn)
    have hW := hw.val vals
    have hQ := hq.val vals
    have hS := pshift (vals := vals) (gs := g2) hq.ll hn
    have hla' : valE vals gk la = valE vals gs la := valE_ex h.ex hla hla0
    have hbit : sayE vals gk e = bitE vals gs lb k := by
      rw [say_ex h.ex hin]
      unfold bitE
      rw [atL_lt (by omega), he]
    have hU : uN (fun i => sayE vals g2 ((P ++ [Q.getD 0 0]).getD i 0)) (k + 1) = uN (fun i => sayE vals gk (P.getD i 0)) k + (if sayE vals g2 (Q.getD 0 0) then pw k else 0) := by
      rw [uN_succ]
      congr 1
      · refine uN_congr fun i hi => ?_
        have hi2 : i < P.length := by rw [h.lP]; exact hi
        rw [getD_snoc hi2, say_ex hx (h.inP _ (nmem.2 ⟨i, hi2, rfl⟩))]
      · have := getD_snoc_end P (Q.getD 0 0)
        rw [h.lP] at this
        rw [this]
    rw [hU, pw_succ]
    rw [hla', hbit] at hW
    rw [hR, hW] at hQ
    have key : uN (fun i => sayE vals gk (P.getD i 0)) k + (if sayE vals g2 (Q.getD 0 0) then pw k else 0) + 2 * pw k * valE vals g2 (Q.drop 1) = uN (fun i => sayE vals gk (P.getD i 0)) k + pw k * valE vals g2 Q := by
      rw [hS, Int.mul_add, Int.add_assoc]
      congr 1
      congr 1
      · split
        · rw [Int.mul_one]
        · rw [Int.mul_zero]
      · rw [Int.mul_comm 2 (pw k), Int.mul_assoc]
    rw [key, hQ]
    by_cases hl : k + 1 < m
    · rw [if_pos hl, if_pos hl, uN_succ, Int.mul_add, Int.mul_add, ← Int.add_assoc, hv]
      congr 1
      split
      · rw [Int.mul_comm]
      · rw [Int.mul_zero, Int.mul_zero]
    · rw [if_neg hl, if_neg hl]
      have e2 : valE vals gs lb = uN (bitE vals gs lb) k - (if bitE vals gs lb k then pw k else 0) := by
        unfold valE
        rw [hlb, show m = k + 1 by omega, nB_one]
      rw [e2, Int.mul_sub, Int.mul_sub, ← Int.add_sub_assoc, hv]
      congr 1
      split
      · rw [Int.mul_comm]
      · rw [Int.mul_zero, Int.mul_zero]
/-- All of it. -/
theorem PrK.fin (h : PrK gs gk P R m n m C la lb) (hn : 0 < n) : ResL gs gk (P ++ R) (m + n) (m * (18 * (n + 1))) C fun vals => valE vals gs la * valE vals gs lb :=
  ⟨h.wf, h.ex, fun x hx => by
    rcases List.mem_append.1 hx with q | q
    · exact h.inP x q
    · exact h.inR x q, h.len, by rw [List.length_append, h.lP, h.lR], fun c => ⟨(h.cst c).1, fun x hx => by
    rcases List.mem_append.1 hx with q | q
    · exact (h.cst c).2.1 x q
    · exact (h.cst c).2.2 x q⟩, fun vals => by
    have hv := h.val vals
    rw [if_neg (Nat.lt_irrefl m)] at hv
    have hll : (P ++ R).length = m + n := by rw [List.length_append, h.lP, h.lR]
    obtain ⟨j, rfl⟩ : ∃ j, n = j + 1 := ⟨n - 1, by omega⟩
    rw [valE_of (f := fun i => sayE vals gk ((P ++ R).getD i 0)) (by omega) fun i _ => rfl, hll, nB_split, ← hv]
    congr 1
    · refine uN_congr fun i hi => ?_
      have hi2 : i < P.length := by rw [h.lP]; exact hi
      rw [List.getD, List.getElem?_append_left hi2]; rfl
    · congr 1
      rw [valE_of (f := fun i => sayE vals gk (R.getD i 0)) (by rw [h.lR]; omega) fun i _ => rfl, h.lR]
      refine nB_congr (by omega) fun i _ => ?_
      rw [List.getD, List.getElem?_append_right (by rw [h.lP]; omega), h.lP, Nat.add_sub_cancel_left]; rfl⟩
end
end Go.Proofs.Ytelpoocgmflofaa
