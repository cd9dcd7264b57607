/- slices.Backward at literals: what comes, the last one first, for every body that keeps the slice. -/
import Derived.Test.YtfllhfhcmoemeaaGreatFnc
import Derived.Test.YtfllhfhcmoemeaaGreatProg
import Derived.RangeFuncBox
import Derived.Shelf.Abstract
import Derived.WalkKit
import Derived.OwnWalkIn
import Derived.TacticsInMore
import Derived.LoopNIn
import Derived.LoopIn
import Derived.Lib.Hide
namespace Go.Proofs.YtfllhfhcmoemeaaGreat
open Go.RowKit Go.Shelf
attribute [local go_sem] Oper.semAt_some

/-- What has come behind k rounds. -/
def bw (zs : List Int) (k : Nat) : List Nat := (List.range k).map fun j => zs.length - 1 - j
theorem bw_succ (zs : List Int) (k : Nat) : bw zs (k + 1) = bw zs k ++ [zs.length - 1 - k] := by simp [bw, List.range_succ]
/-- What a round is handed: where, and which. -/
def bwE (zs : List Int) (i : Nat) : Array Value := #[.int .i64 (i : Int), .int .i32 (zs[i]?.getD 0)]
theorem bw_length (zs : List Int) (k : Nat) : (bw zs k).length = k := by simp [bw]
/-- Two blocks stay. -/
def KeepB (bs gt : Nat) (W W' : World) : Prop := W'.heap[bs]? = W.heap[bs]? ∧ W'.heap[gt]? = W.heap[gt]?
theorem KeepB.refl (bs gt : Nat) (W : World) : KeepB bs gt W W := ⟨rfl, rfl⟩
theorem KeepB.trans {bs gt : Nat} {A B C : World} (h : KeepB bs gt A B) (k : KeepB bs gt B C) : KeepB bs gt A C := ⟨k.1.trans h.1, k.2.trans h.2⟩
theorem KeepB.put {bs gt n : Nat} (h1 : bs < n) (h2 : gt < n) (W : World) (l : Nat) (o o' : Obj) (hl : n ≤ l) (_ : W.heap[l]? = some o) (_ : o.isCells = false) (_ : o.isWalk = false) : KeepB bs gt W (W.putObj l o') :=
  ⟨World.putObj_heap_other (by omega), World.putObj_heap_other (by omega)⟩
set_option maxRecDepth 100000 in
set_option maxHeartbeats 2000000 in
theorem bwd1_in (F : Fence) (n : Nat) (hF : F.fn 86) (hro : F.round = none) (hn : 1 ≤ n) (l bs gt cap : Nat) (zs : List Int) (hlen : zs.length ≤ 90000) (hcap : zs.length ≤ cap) (J Jx : List Nat → World → Prop)
    (hY : ∀ pre x W, J pre W → pre.length < zs.length → YieldAt F (n - 1) Tryz.prog l (bwE zs x) W fun e W' =>
      (e = .returned (.bool true) ∧ J (pre ++ [x]) W' ∧ KeepB bs gt W W') ∨ (e = .returned (.bool false) ∧ Jx (pre ++ [x]) W'))
    (W : World) (hBs : W.cell? ⟨bs, 0, none⟩ = some (.slice (some ⟨gt, 0, none⟩) zs.length cap)) (hc : ∀ j, j < zs.length → W.cell? ⟨gt, j, none⟩ = some (.int .i32 (zs[j]?.getD 0))) (h0 : J [] W) :
    CallsIn F n Tryz.prog 86 #[.func (.yield l) #[] #[], .pointer (some ⟨bs, 0, none⟩)] W fun e W' => (∃ v, e = .returned v) ∧
      ((∃ ys, ys = bw zs zs.length ∧ J ys W') ∨ (∃ pre, (∃ k, k ≤ zs.length ∧ pre = bw zs k) ∧ Jx pre W')) := by
  refine callsIn_of_wp Tryz.func86 rfl hF ?_ hro
  simp only [Tryz.ntmps86, List.size_toArray, List.length_cons, List.length_nil, Nat.reduceAdd, Nat.reduceSub, Array.replicate_succ, Array.replicate_zero, List.push_toArray, List.append_toArray, List.nil_append, List.cons_append]
  obtain ⟨len, hlz⟩ : ∃ len, len = zs.length := ⟨_, rfl⟩
  rw [← hlz] at hBs
  have hlen' : len ≤ 90000 := by omega
  have hcap' : len ≤ cap := by omega
  gi_wp2
  gi_loopw [3] (fun i wr => ∃ r : Nat, r ≤ len ∧ i = .int .i64 ((r : Int) - 1) ∧ J (bw zs (len - r)) wr ∧ KeepB bs gt W wr)
    (fun i _ => (intOf i + 1).toNat)
  case atStart => exact ⟨len, Nat.le_refl _, by rw [hlz], by rw [Nat.sub_self]; exact h0, KeepB.refl _ _ _⟩
  case round =>
    obtain ⟨r, hr, rfl, hJs, hk⟩ := hrel
    have hcb : wr.cell? ⟨bs, 0, none⟩ = some (.slice (some ⟨gt, 0, none⟩) len cap) := (World.cell?_of_block (a := ⟨bs, 0, none⟩) hk.1).trans hBs
    cases r with
    | zero =>
      gi_wp2
      go_end0
      exact ⟨⟨_, rfl⟩, .inl ⟨_, rfl, by rw [Nat.sub_zero, hlz] at hJs; exact hJs⟩⟩
    | succ m =>
      have hm : m < len := by omega
      have hcx : wr.cell? ⟨gt, m, none⟩ = some (.int .i32 (zs[m]?.getD 0)) := (World.cell?_of_block (a := ⟨gt, m, none⟩) hk.2).trans (hc m (by omega))
      have e1 : (((m + 1 : Nat) : Int) - 1) = (m : Int) := by omega
      have e2 : zs.length - 1 - (len - (m + 1)) = m := by omega
      have hidx := bw_succ zs (len - (m + 1))
      rw [e2, show len - (m + 1) + 1 = len - m from by omega] at hidx
      obtain ⟨fn, tmps, assign, body, hy, hR⟩ := hY _ m wr hJs (by rw [bw_length]; omega)
      unfold bwE at hy
      rw [← hidx] at hR
      have tm : decide ((0 : Int) ≤ (m : Int)) = true := decide_eq_true (by omega)
      rw [e1]
      have HLZ := Lib.hid hlz
      clear hlz e1 e2 hidx
      generalize zs[m]?.getD 0 = x at *
      gi_wp2
      refine hR.mono ?_
      rintro e W3 (⟨rfl, hJ3, hk3⟩ | ⟨rfl, hJx3⟩)
      · gi_wp2
        go_roundw
        case rel => exact ⟨m, by omega, by go_num, hJ3, hk.trans hk3⟩
        case measure => simp [intOf]
      · gi_wp2
        refine bodyPost_ret (results_none rfl _ _ _) rfl ?_
        exact ⟨⟨_, rfl⟩, .inr ⟨_, ⟨len - m, by have := HLZ.out; omega, rfl⟩, hJx3⟩⟩
theorem bwd_stops (F : Fence) (n : Nat) (hF : F.fn 86) (hro : F.round = none) (hn : 1 ≤ n) (bs gt cap : Nat) (zs : List Int) (hlen : zs.length ≤ 90000) (hcap : zs.length ≤ cap) (w : World) (hbs : bs < w.heap.size) (hgt : gt < w.heap.size)
    (hBs : w.cell? ⟨bs, 0, none⟩ = some (.slice (some ⟨gt, 0, none⟩) zs.length cap)) (hc : ∀ j, j < zs.length → w.cell? ⟨gt, j, none⟩ = some (.int .i32 (zs[j]?.getD 0))) :
    SeqStopsK F n Tryz.prog 86 #[.pointer (some ⟨bs, 0, none⟩)] (bwE zs) (KeepB bs gt) (fun ys => ys = bw zs zs.length) (fun pre => ∃ k, k ≤ zs.length ∧ pre = bw zs k) zs.length w := fun l J Jx W hW _ _ hY h0 =>
  bwd1_in F n hF hro hn l bs gt cap zs hlen hcap J Jx hY W ((hW.cell (p := ⟨bs, 0, none⟩) hbs).trans hBs) (fun j hj => (hW.cell (p := ⟨gt, j, none⟩) hgt).trans (hc j hj)) h0
set_option maxHeartbeats 1000000 in
theorem backward_any (A : Option Addr) (n c : Nat) (w : World) :
    Calls Tryz.prog 54 #[.slice A n c] w fun e w' => e = .returned (.func (.func 86) #[] #[.pointer (some ⟨w.heap.size, 0, none⟩)]) ∧ w' = w.alloc (.cells #[.slice A n c] 37) := by
  go_enter Tryz.func54, Tryz.ntmps54
  go_wp2_with fail
  go_ret
  exact ⟨rfl, rfl⟩
end Go.Proofs.YtfllhfhcmoemeaaGreat
