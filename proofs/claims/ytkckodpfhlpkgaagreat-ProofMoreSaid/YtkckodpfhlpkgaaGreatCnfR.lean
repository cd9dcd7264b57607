/- Formulas of clauses: cnf.Right; the plain answer's Right, True and False: contracts. -/
import Derived.Test.YtkckodpfhlpkgaaGreatLitD
import Derived.Test.YtkckodpfhlpkgaaGreatFindL
import Derived.Test.YtkckodpfhlpkgaaGreatWOpn
import Derived.Test.YtkckodpfhlpkgaaGreatRone
import Derived.BigQuiet
import Derived.Deep.QuietTactic
namespace Go.Proofs.YtkckodpfhlpkgaaGreat.CnfP
open LitM
/-- Can a formula be? -/
def litB (v l : Int) : Bool := LitM.one l && decide (varZ l ≤ v)
def clauseB (v : Int) (c : List Int) : Bool := c.all (litB v)
def total (cs : List (List Int)) : Nat := (cs.map List.length).sum
def rightF (v : Int) (cs : List (List Int)) : Bool :=
  decide (0 ≤ v) && decide (v ≤ 262144) && decide (cs.length ≤ 1048576) && decide (total cs ≤ 4194304) && cs.all (clauseB v)

theorem total_nil : total [] = 0 := rfl
theorem total_cons (c : List Int) (cs : List (List Int)) : total (c :: cs) = c.length + total cs := by simp [total]
theorem total_append (a b : List (List Int)) : total (a ++ b) = total a + total b := by simp [total]

end Go.Proofs.YtkckodpfhlpkgaaGreat.CnfP
namespace Go.Proofs.YtkckodpfhlpkgaaGreat
open Go.RowKit LitM CnfP

/-- Clauses of numbers of 32 bits, none longer than memory is. -/
def Ok32 (cs : List (List Int)) : Prop := ∀ j, (cs.getD j []).length ≤ 35184372088832 ∧ In32 (cs.getD j [])
theorem Ok32.of {cs : List (List Int)} (h : ∀ c ∈ cs, c.length ≤ 35184372088832 ∧ In32 c) : Ok32 cs := by
  intro j
  by_cases hj : j < cs.length
  · have : cs.getD j [] = cs[j] := by simp [List.getD, List.getElem?_eq_getElem hj]
    rw [this]; exact h _ (List.getElem_mem hj)
  · have : cs.getD j [] = [] := by simp [List.getD, List.getElem?_eq_none (by omega : cs.length ≤ j)]
    rw [this]; exact ⟨by simp, In32.of (by simp)⟩

theorem getF_lt {cs : List (List Int)} {j : Nat} (h : j < cs.length) : cs.getD j [] = cs[j] := by simp [List.getD, List.getElem?_eq_getElem h]
theorem take_snocF {cs : List (List Int)} {k : Nat} (h : k < cs.length) : cs.take (k + 1) = cs.take k ++ [cs.getD k []] := by
  rw [List.take_succ_eq_append_getElem h, getF_lt h]

/-- What is left of the room for literals behind k clauses. -/
def roomZ (cs : List (List Int)) (k : Nat) : Int := 4194304 - (total (cs.take k) : Int)
theorem roomZ_zero (cs : List (List Int)) : roomZ cs 0 = 4194304 := by simp [roomZ, total]
theorem roomZ_succ {cs : List (List Int)} {k : Nat} (h : k < cs.length) : roomZ cs (k + 1) = roomZ cs k - ((cs.getD k []).length : Int) := by
  unfold roomZ; rw [take_snocF h, total_append]; simp [total]; omega
theorem total_take (cs : List (List Int)) (k : Nat) : total (cs.take k) ≤ total cs := by
  have := total_append (cs.take k) (cs.drop k)
  rw [List.take_append_drop] at this
  omega
theorem right_big {v : Int} {cs : List (List Int)} {k : Nat} (h : roomZ cs k < 0) : rightF v cs = false := by
  have := total_take cs k
  unfold roomZ at h
  unfold rightF
  simp only [Bool.and_eq_false_iff, decide_eq_false_iff_not]
  exact .inl (.inr (by omega))
theorem right_bad {v : Int} {cs : List (List Int)} {k : Nat} (hk : k < cs.length) (h : clauseB v (cs.getD k []) = false) : rightF v cs = false := by
  unfold rightF
  simp only [Bool.and_eq_false_iff]
  refine .inr ?_
  rw [← Bool.not_eq_true, List.all_eq_true]
  intro ha
  rw [getF_lt hk] at h
  rw [ha _ (List.getElem_mem hk)] at h
  cases h
theorem right_yes {v : Int} {cs : List (List Int)} (h0 : 0 ≤ v) (h1 : v ≤ 262144) (h2 : cs.length ≤ 1048576) (h3 : ¬ roomZ cs cs.length < 0) (h4 : ∀ j, j < cs.length → clauseB v (cs.getD j []) = true) : rightF v cs = true := by
  unfold roomZ at h3
  rw [List.take_length] at h3
  unfold rightF
  simp only [Bool.and_eq_true, decide_eq_true_eq, List.all_eq_true]
  refine ⟨⟨⟨⟨h0, h1⟩, h2⟩, by omega⟩, fun c hc => ?_⟩
  obtain ⟨i, hi, rfl⟩ := List.getElem_of_mem hc
  have := h4 i hi
  rwa [getF_lt hi] at this
theorem right_out {v : Int} {cs : List (List Int)} (h : v < 0 ∨ 262144 < v ∨ 1048576 < cs.length) : rightF v cs = false := by
  unfold rightF
  simp only [Bool.and_eq_false_iff, decide_eq_false_iff_not]
  omega
end Go.Proofs.YtkckodpfhlpkgaaGreat
namespace Go.Proofs.YtkckodpfhlpkgaaGreat
open Go.RowKit LitM CnfP

theorem clauseB_no {v : Int} {c : List Int} (h : allOne c = false) : clauseB v c = false := by
  rw [← Bool.not_eq_true]
  intro ha
  unfold clauseB at ha
  rw [List.all_eq_true] at ha
  rw [← Bool.not_eq_true] at h
  refine h ?_
  unfold allOne
  rw [List.all_eq_true]
  intro x hx
  have := ha x hx
  unfold litB at this
  rw [Bool.and_eq_true] at this
  exact this.1
theorem clauseB_any {v : Int} {c : List Int} (h : allOne c = true) : (!c.any (fun l => decide (v < varZ l))) = clauseB v c := by
  unfold allOne at h
  unfold clauseB
  rw [List.all_eq_true] at h
  rw [Bool.eq_iff_iff, Bool.not_eq_true', List.any_eq_false, List.all_eq_true]
  constructor
  · intro hh x hx
    have := hh x hx
    unfold litB
    rw [h x hx]
    simp at this ⊢
    omega
  · intro hh x hx
    have := hh x hx
    unfold litB at this
    rw [h x hx] at this
    simp at this ⊢
    omega

theorem eg_within1 : ∀ args w, (callFunc 46 args).run Tryz.prog w = .ok (.enter 46 args) w := enters_of Tryz.func46 (by kernel_rfl) rfl

set_option maxHeartbeats 400000 in
theorem within1_says (B : Nat) (v : Int) (w : World) (hc : w.cell? ⟨B, 0, none⟩ = some (.int .i64 v)) (x : Int) (h0 : -2147483648 ≤ x) (h1 : x ≤ 2147483647) :
    Says 46 #[.pointer (some ⟨B, 0, none⟩)] (Value.int .i32) (fun l => decide (v < varZ l)) w x := by
  intro q
  have hc' : (w.drewN q).cell? ⟨B, 0, none⟩ = some (.int .i64 v) := hc
  generalize hW : w.drewN q = W at *
  have HW := Lib.hid hW; clear hW
  by_cases hv : v < varZ x
  all_goals
    have EV : Hid (decide (v < varZ x) = true ∨ decide (v < varZ x) = false) := by unfold Hid; simp; omega
    show Calls Tryz.prog 46 #[.int .i32 x, .pointer (some ⟨B, 0, none⟩)] W _
    go_enter Tryz.func46, Tryz.ntmps46
    go_wp2
    go_quiet ((go_at_call 28; exact Calls.quiet_of_same (var_q _ _ (by omega) (by omega))))
    go_wp2
    all_goals (go_ret; exact ⟨ret_bool (by simp [hv]), _, by rw [← HW.out]; exact World.drewN_drewN _ _ _⟩)

set_option maxHeartbeats 800000 in
theorem within_any (A : Option Addr) (n c : Nat) (xs : List Int) (v : Int) (w : World) (h : Rd .i32 w w.heap.size A n xs) (hr : In32 xs) (hn : n ≤ 9223372036854775807) :
    Calls Tryz.prog 25 #[.slice A n c, .int .i64 v] w fun e w' => e = .returned (.bool (clauseB v xs)) ∧ Below w.heap.size w w' := by
  have hmf : ∀ (fn : Fn) (first cap : Array Value) (w : World), (Instr.makeFunc fn first cap).run Tryz.prog w = .ok (.func fn first cap) w := fun _ _ _ _ => rfl
  have hR := (h.alloc (Nat.le_refl _) (.cells #[.int .i64 v] 3)).more (B' := (w.alloc (.cells #[.int .i64 v] 3)).heap.size) (by simp)
  have HRI := Lib.hid (right_any A n c xs _ hR hr hn)
  rcases ha : allOne xs with _ | _
  · have EV := Lib.hid (clauseB_no (v := v) ha)
    have h2 := HRI.out
    rw [ha] at h2
    have H2 := Lib.hid h2
    clear h2 ha hR HRI
    go_enter Tryz.func25, Tryz.ntmps25
    go_wp2_with fail
    refine H2.out.mono ?_
    rintro e w' ⟨rfl, rfl⟩
    go_wp2_with fail
    go_ret
    exact ⟨ret_bool (by rw [EV.out]), (Below.refl _ _).alloc (Nat.le_refl _) _⟩
  · have EV := Lib.hid (clauseB_any (v := v) ha)
    have h2 := HRI.out
    rw [ha] at h2
    have H2 := Lib.hid h2
    have hcon := containsL_any 46 #[.pointer (some ⟨w.heap.size, 0, none⟩)] (fun l => decide (v < varZ l)) eg_within1 A n c xs _ _ hR hn (fun j _ => within1_says w.heap.size v _ (by simp) _ (hr j).1 (hr j).2)
    generalize (xs.any fun l => decide (v < varZ l)) = r at *
    have HC := Lib.hid hcon
    clear h2 ha hR HRI hcon
    go_enter Tryz.func25, Tryz.ntmps25
    go_wp2_with fail
    refine H2.out.mono ?_
    rintro e w' ⟨rfl, rfl⟩
    go_wp2_with fail
    refine HC.out.mono ?_
    rintro e w' ⟨rfl, q, rfl⟩
    go_wp2_with fail
    go_ret
    exact ⟨ret_bool (by rw [← EV.out]), below_drewN ((Below.refl _ _).alloc (Nat.le_refl _) _) q⟩
end Go.Proofs.YtkckodpfhlpkgaaGreat
namespace Go.Proofs.YtkckodpfhlpkgaaGreat
open Go.RowKit LitM CnfP

/-- The block of a formula that a call has boxed. -/
def boxF (w : World) (v : Int) (A : Option Addr) (n c : Nat) : World := w.alloc (.cells #[.int .i64 v, .slice A n c] 24)
theorem boxF_size (w : World) (v : Int) (A : Option Addr) (n c : Nat) : (boxF w v A n c).heap.size = w.heap.size + 1 := by simp [boxF]
theorem boxF_below (w : World) (v : Int) (A : Option Addr) (n c : Nat) : Below w.heap.size w (boxF w v A n c) := (Below.refl _ _).alloc (Nat.le_refl _) _
theorem boxF_0 {w wr : World} {v : Int} {A : Option Addr} {n c : Nat} (h : Below (boxF w v A n c).heap.size (boxF w v A n c) wr) : wr.cell? ⟨w.heap.size, 0, none⟩ = some (.int .i64 v) := by
  rw [h.cell (p := ⟨w.heap.size, 0, none⟩) (by simp [boxF])]; simp [boxF]
theorem boxF_1 {w wr : World} {v : Int} {A : Option Addr} {n c : Nat} (h : Below (boxF w v A n c).heap.size (boxF w v A n c) wr) : wr.cell? ⟨w.heap.size, 1, none⟩ = some (.slice A n c) := by
  rw [h.cell (p := ⟨w.heap.size, 1, none⟩) (by simp [boxF])]; simp [boxF]

set_option maxHeartbeats 1600000 in
theorem rightF_any (v : Int) (A : Option Addr) (n c : Nat) (cs : List (List Int)) (w : World) (h : RdF w w.heap.size A n cs) (hr : Ok32 cs) (hn : n ≤ 9223372036854775807) (hv0 : -9223372036854775808 ≤ v) (hv1 : v ≤ 9223372036854775807) :
    Calls Tryz.prog 16 #[.agg #[.int .i64 v, .slice A n c]] w fun e w' => e = .returned (.bool (rightF v cs)) ∧ Below w.heap.size w w' := by
  have HL := Lib.hid h.len
  by_cases hout : v < 0 ∨ 262144 < v ∨ 1048576 < n
  · have EV := Lib.hid (right_out (v := v) (cs := cs) (by rw [HL.out]; exact hout))
    by_cases h1 : v < 0
    · clear hout
      go_enter Tryz.func16, Tryz.ntmps16
      go_wp2
      go_ret
      exact ⟨ret_bool (by rw [EV.out]), (Below.refl _ _).alloc (Nat.le_refl _) _⟩
    · by_cases h2 : 262144 < v
      · clear hout
        go_enter Tryz.func16, Tryz.ntmps16
        go_wp2
        go_ret
        exact ⟨ret_bool (by rw [EV.out]), (Below.refl _ _).alloc (Nat.le_refl _) _⟩
      · have h3 : 1048576 < n := by omega
        clear hout
        go_enter Tryz.func16, Tryz.ntmps16
        go_wp2
        go_ret
        exact ⟨ret_bool (by rw [EV.out]), (Below.refl _ _).alloc (Nat.le_refl _) _⟩
  · have h1 : 0 ≤ v := by omega
    have h2 : v ≤ 262144 := by omega
    have h3 : n ≤ 1048576 := by omega
    clear hout
    have hB0 := boxF_below w v A n c
    have HB0 := Lib.hid hB0
    have HR := Lib.hid ((h.below hB0).more (B' := (boxF w v A n c).heap.size) hB0.size)
    have HZ := Lib.hid (roomZ_zero cs)
    clear hB0 h
    go_enter Tryz.func16, Tryz.ntmps16
    go_wp2
    go_loopw [3, 5, 23] (fun room _ i wr => ∃ k : Nat, k ≤ n ∧ i = .int .i64 k ∧ room = .int .i64 (roomZ cs k) ∧ 0 ≤ roomZ cs k ∧ roomZ cs k ≤ 4194304 ∧ Hid (∀ j, j < k → clauseB v (cs.getD j []) = true) ∧ Hid (Below (boxF w v A n c).heap.size (boxF w v A n c) wr)) (fun _ _ i _ => n - (intOf i).toNat)
    case atStart => exact ⟨0, Nat.zero_le _, rfl, by rw [HZ.out], by rw [HZ.out]; omega, by rw [HZ.out]; omega, fun j hj => absurd hj (by omega), Below.refl _ _⟩
    case round =>
      obtain ⟨k, hk, rfl, rfl, hz0, hz1, HA, HW⟩ := hrel
      have hc0 := boxF_0 HW.out
      have hc1 := boxF_1 HW.out
      have hsz := HW.out.size
      by_cases hlt : k < n
      · have hlk : k < cs.length := by rw [HL.out]; exact hlt
        obtain ⟨b, o, Aj, nj, cj, rfl, hb, hc, hRj⟩ := (HR.out.below HW.out).get hlt
        have hok := hr k
        have hlen := hRj.len
        have hsucc := roomZ_succ hlk
        have hnj : nj ≤ 35184372088832 := by omega
        have hsuc2 : roomZ cs (k + 1) = roomZ cs k - (nj : Int) := by rw [hsucc, hlen]
        by_cases hneg : roomZ cs k - (nj : Int) < 0
        · have EV := Lib.hid (right_big (v := v) (cs := cs) (k := k + 1) (by rw [hsuc2]; exact hneg))
          have HBW := Lib.hid (HB0.out.trans (HW.out.mono HB0.out.size))
          clear hok hlen hsucc hsuc2 hRj hlk
          generalize roomZ cs k = rk at *
          go_wp2
          go_ret
          exact ⟨ret_bool (by rw [EV.out]), HBW.out⟩
        · have hwn := within_any Aj nj cj _ v wr (hRj.more hsz) hok.2 (by omega)
          rcases hcl : clauseB v (cs.getD k []) with _ | _
          · have EV := Lib.hid (right_bad (v := v) hlk hcl)
            rw [hcl] at hwn
            have HWN := Lib.hid hwn
            have HBW := Lib.hid (HB0.out.trans (HW.out.mono HB0.out.size))
            clear hok hlen hsucc hsuc2 hRj hlk hwn hcl
            generalize roomZ cs k = rk at *
            go_wp2_with fail
            refine HWN.out.mono ?_
            rintro e w' ⟨rfl, hBx⟩
            have HBx := Lib.hid (HBW.out.trans (hBx.mono HBW.out.size))
            clear hBx
            go_wp2_with fail
            go_ret
            exact ⟨ret_bool (by rw [EV.out]), HBx.out⟩
          · have HCL := Lib.hid hcl
            have HS := Lib.hid hsuc2
            rw [hcl] at hwn
            have HWN := Lib.hid hwn
            clear hok hlen hsucc hsuc2 hRj hlk hwn hcl
            have hrk : 0 ≤ roomZ cs k - (nj : Int) := by omega
            generalize roomZ cs k = rk at *
            go_wp2_with fail
            refine HWN.out.mono ?_
            rintro e w' ⟨rfl, hBx⟩
            have HBx := Lib.hid (HW.out.trans (hBx.mono hsz))
            clear hBx
            go_wp2_with fail
            go_roundw
            case rel =>
              refine ⟨k + 1, by omega, by go_num, by rw [HS.out], by rw [HS.out]; omega, by rw [HS.out]; omega, fun j hj => ?_, HBx.out⟩
              by_cases e : j = k
              · rw [e]; exact HCL.out
              · exact HA.out j (by omega)
            case measure => simp [intOf]; omega
      · have hkn : k = cs.length := by rw [HL.out]; omega
        have EV := Lib.hid (right_yes (cs := cs) h1 h2 (by rw [HL.out]; exact h3) (by rw [← hkn]; omega) (fun j hj => HA.out j (by omega)))
        clear hkn
        go_wp2
        go_ret
        exact ⟨ret_bool (by rw [EV.out]), HB0.out.trans (HW.out.mono HB0.out.size)⟩
end Go.Proofs.YtkckodpfhlpkgaaGreat
namespace Go.Proofs.YtkckodpfhlpkgaaGreat
open Go.RowKit LitM CnfP

/-- The slice with address A and length n holds the bools bs, in a block below B. -/
structure RdB (w : World) (B : Nat) (A : Option Addr) (n : Nat) (bs : List Bool) : Prop where
  len : bs.length = n
  at_ : 0 < n → ∃ b o, A = some ⟨b, o, none⟩ ∧ b < B ∧ ∀ j, j < n → w.cell? ⟨b, o + j, none⟩ = some (.bool (bs.getD j false))
theorem RdB.nil {w : World} {B : Nat} {A : Option Addr} : RdB w B A 0 [] := ⟨rfl, fun h => absurd h (by omega)⟩
theorem RdB.get {w : World} {B n : Nat} {A : Option Addr} {bs : List Bool} (h : RdB w B A n bs) {j : Nat} (hj : j < n) :
    ∃ b o, A = some ⟨b, o, none⟩ ∧ b < B ∧ w.cell? ⟨b, o + j, none⟩ = some (.bool (bs.getD j false)) := by
  obtain ⟨b, o, e, hb, hc⟩ := h.at_ (by omega)
  exact ⟨b, o, e, hb, hc j hj⟩
theorem RdB.keep {w w' : World} {B n : Nat} {A : Option Addr} {bs : List Bool} (h : RdB w B A n bs) (hk : ∀ p : Addr, p.block < B → w'.cell? p = w.cell? p) : RdB w' B A n bs :=
  ⟨h.len, fun hn => by
    obtain ⟨b, o, e, hb, hc⟩ := h.at_ hn
    exact ⟨b, o, e, hb, fun j hj => (hk ⟨b, o + j, none⟩ hb).trans (hc j hj)⟩⟩
theorem RdB.more {w : World} {B B' n : Nat} {A : Option Addr} {bs : List Bool} (h : RdB w B A n bs) (hB : B ≤ B') : RdB w B' A n bs :=
  ⟨h.len, fun hn => by
    obtain ⟨b, o, e, hb, hc⟩ := h.at_ hn
    exact ⟨b, o, e, by omega, hc⟩⟩
theorem RdB.below {w w' : World} {B n : Nat} {A : Option Addr} {bs : List Bool} (h : RdB w B A n bs) (hb : Below B w w') : RdB w' B A n bs := h.keep fun _ hp => hb.cell hp
theorem RdB.alloc {w : World} {B n : Nat} {A : Option Addr} {bs : List Bool} (h : RdB w B A n bs) (hB : B ≤ w.heap.size) (o : Obj) : RdB (w.alloc o) B A n bs :=
  h.keep fun p hp => World.cell?_alloc_lt w o p (by omega)

/-- Is a literal true? -/
def trueB (bs : List Bool) (l : Int) : Bool := bs.getD (varZ l - 1).toNat false == decide (0 < l)
def clauseH (bs : List Bool) (c : List Int) : Bool := c.any (trueB bs)
/-- Where the first clause is that doesn't hold; -1, if there is none. -/
def falseAt (bs : List Bool) : List (List Int) → Int
  | [] => -1
  | c :: cs => if clauseH bs c then (if falseAt bs cs = -1 then -1 else falseAt bs cs + 1) else 0
theorem falseAt_ge (bs : List Bool) : ∀ cs, -1 ≤ falseAt bs cs
  | [] => by simp [falseAt]
  | c :: cs => by
    have := falseAt_ge bs cs
    unfold falseAt
    split
    · split <;> omega
    · omega
theorem falseAt_le (bs : List Bool) : ∀ cs, falseAt bs cs ≤ cs.length
  | [] => by simp [falseAt]
  | c :: cs => by
    have := falseAt_le bs cs
    unfold falseAt
    split
    · split
      · simp; omega
      · simp; omega
    · simp; omega
theorem falseAt_at (bs : List Bool) : ∀ (cs : List (List Int)) (k : Nat), k < cs.length → clauseH bs (cs.getD k []) = false → (∀ j, j < k → clauseH bs (cs.getD j []) = true) → falseAt bs cs = k
  | [], k, h, _, _ => absurd h (by simp)
  | c :: cs, 0, _, h, _ => by
    have : clauseH bs c = false := by simpa using h
    simp [falseAt, this]
  | c :: cs, k + 1, hk, h, hall => by
    have h0 : clauseH bs c = true := by simpa using hall 0 (by omega)
    have ih := falseAt_at bs cs k (by simpa using hk) (by simpa using h) (fun j hj => by simpa using hall (j + 1) (by omega))
    unfold falseAt
    rw [h0, ih]
    simp
theorem falseAt_no (bs : List Bool) : ∀ (cs : List (List Int)), (∀ j, j < cs.length → clauseH bs (cs.getD j []) = true) → falseAt bs cs = -1
  | [], _ => rfl
  | c :: cs, hall => by
    have h0 : clauseH bs c = true := by simpa using hall 0 (by simp)
    have ih := falseAt_no bs cs (fun j hj => by simpa using hall (j + 1) (by simpa using hj))
    unfold falseAt
    rw [h0, ih]
    simp
theorem rightF_clause {v : Int} {cs : List (List Int)} (h : rightF v cs = true) {j : Nat} (hj : j < cs.length) : ∀ l ∈ cs.getD j [], 1 ≤ varZ l ∧ varZ l ≤ v := by
  unfold rightF at h
  simp only [Bool.and_eq_true, List.all_eq_true] at h
  rw [getF_lt hj]
  have := h.2 _ (List.getElem_mem hj)
  intro l hl
  unfold clauseB at this
  rw [List.all_eq_true] at this
  have := this l hl
  unfold litB at this
  rw [Bool.and_eq_true, decide_eq_true_eq] at this
  have h0 := (varZ_zero l)
  have h1 := (varZ_bd l)
  have h2 : varZ l ≠ 0 := fun e => by rw [h0.1 e] at this; cases this.1
  omega
theorem rightF_v {v : Int} {cs : List (List Int)} (h : rightF v cs = true) : 0 ≤ v ∧ v ≤ 262144 ∧ total cs ≤ 4194304 := by
  unfold rightF at h
  simp only [Bool.and_eq_true, decide_eq_true_eq] at h
  omega
end Go.Proofs.YtkckodpfhlpkgaaGreat
namespace Go.Proofs.YtkckodpfhlpkgaaGreat
open Go.RowKit LitM CnfP

theorem litB_bad {v : Int} {c : List Int} {j : Nat} (hj : j < c.length) (h : litB v (c.getD j 0) = false) : clauseB v c = false := by
  rw [← Bool.not_eq_true]
  intro ha
  unfold clauseB at ha
  rw [List.all_eq_true] at ha
  rw [getD_lt hj] at h
  rw [ha _ (List.getElem_mem hj)] at h
  cases h
theorem litB_all {v : Int} {c : List Int} (h : ∀ j, j < c.length → litB v (c.getD j 0) = true) : clauseB v c = true := by
  unfold clauseB
  rw [List.all_eq_true]
  intro x hx
  obtain ⟨i, hi, rfl⟩ := List.getElem_of_mem hx
  have := h i hi
  rwa [getD_lt hi] at this
theorem total_succ {cs : List (List Int)} {k : Nat} (h : k < cs.length) : total (cs.take (k + 1)) = total (cs.take k) + (cs.getD k []).length := by
  rw [take_snocF h, total_append]; simp [total]

/-- The outer loop's relation, the inner one's. -/
def PR1 (w : World) (v : Int) (A : Option Addr) (n c : Nat) (cs : List (List Int)) (a i : Value) (wr : World) : Prop :=
  ∃ k q : Nat, i = .int .i64 (k : Int) ∧ a = .int .i64 (total (cs.take k) : Nat) ∧ k ≤ n ∧ (∀ j, j < k → clauseB v (cs.getD j []) = true) ∧ wr = (boxF w v A n c).drewN q
def PR2 (w : World) (v : Int) (A : Option Addr) (n c : Nat) (xs : List Int) (m : Nat) (i : Value) (wr : World) : Prop :=
  ∃ k q : Nat, i = .int .i64 (k : Int) ∧ k ≤ m ∧ (∀ j, j < k → litB v (xs.getD j 0) = true) ∧ wr = (boxF w v A n c).drewN q

end Go.Proofs.YtkckodpfhlpkgaaGreat
namespace Go.Proofs.YtkckodpfhlpkgaaGreat
open Go.RowKit LitM CnfP

def falseV (v : Int) (cs : List (List Int)) (bs : List Bool) : Int := if (bs.length : Int) = v ∧ rightF v cs = true then falseAt bs cs else 0
def falseE (v : Int) (cs : List (List Int)) (bs : List Bool) : Int := if (bs.length : Int) = v ∧ rightF v cs = true then 0 else 21
theorem any_snoc {bs : List Bool} {xs : List Int} {k : Nat} (hk : k < xs.length) : clauseH bs (xs.take (k + 1)) = (clauseH bs (xs.take k) || trueB bs (xs.getD k 0)) := by
  unfold clauseH
  rw [List.take_succ_eq_append_getElem hk, List.any_append, getD_lt hk]
  simp

/-- The outer loop's relation, the inner one's. -/
def PF1 (n : Nat) (cs : List (List Int)) (bs : List Bool) (w1 : World) (i : Value) (wr : World) : Prop :=
  ∃ k : Nat, i = .int .i64 (k : Int) ∧ k ≤ n ∧ (∀ j, j < k → clauseH bs (cs.getD j []) = true) ∧ wr = w1
def PF2 (m : Nat) (xs : List Int) (bs : List Bool) (w1 : World) (h i : Value) (wr : World) : Prop :=
  ∃ k : Nat, i = .int .i64 (k : Int) ∧ k ≤ m ∧ h = .bool (clauseH bs (xs.take k)) ∧ wr = w1

end Go.Proofs.YtkckodpfhlpkgaaGreat
