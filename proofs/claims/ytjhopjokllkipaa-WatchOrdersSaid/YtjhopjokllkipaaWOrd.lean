/- WatchOrders is true: the statement Rows.WatchOrdersSaid, without a condition. -/
import Derived.Test.YtjhopjokllkipaaDuo
import Derived.Test.YtjhopjokllkipaaWOpen
import Derived.Test.YtjhopjokllkipaaRows
import Derived.Deep.RegionWith
import Derived.Deep.Slices
import Derived.Deep.Fields
import Derived.ChangeSame
namespace Go.Proofs.Ytjhopjokllkipaa
open Go.RowKit LitM TrailM EngM

/-- The engine has the clauses for which Q. -/
def Of (F : Eng) (Q : List Int → Prop) : Prop :=
  (∀ i, i < F.cs.length → (clA F.cs i).pr = true → ∃ c, Q c ∧ IsClean c (clA F.cs i).ls) ∧ ∀ c, Q c → ∃ i, i < F.cs.length ∧ (clA F.cs i).pr = true ∧ IsClean c (clA F.cs i).ls
theorem Of.sub {F G : Eng} {Q : List Int → Prop} (h : Of F Q) (k : Of G Q) : Subc F G := fun i hi hp => by
  obtain ⟨c, hq, hc⟩ := h.1 i hi hp
  obtain ⟨j, h1, h2, h3⟩ := k.2 c hq
  exact ⟨j, h1, h2, h3.unique hc⟩
theorem Of.congr {F : Eng} {Q R : List Int → Prop} (h : Of F Q) (e : ∀ c, Q c ↔ R c) : Of F R :=
  ⟨fun i hi hp => by obtain ⟨c, a, b⟩ := h.1 i hi hp; exact ⟨c, (e c).1 a, b⟩, fun c hc => h.2 c ((e c).2 hc)⟩
theorem Of.new (N : Nat) : Of (newE N) (fun _ => False) := ⟨fun i hi => by simp [newE] at hi, fun c hc => hc.elim⟩
theorem Of.cs {F G : Eng} {Q : List Int → Prop} (h : Of F Q) (e : G.cs = F.cs) : Of G Q := by unfold Of at *; rw [e]; exact h
theorem Of.add {F F' : Eng} {Q : List Int → Prop} {xs : List Int} (h : Of F Q) (hf : fitsB F.n xs = true) (a : AddE F xs F') : Of F' (fun d => Q d ∨ d = xs) := by
  rcases a with ⟨x, _⟩ | ⟨_, ys, hy, rfl⟩
  · rw [hf] at x; cases x
  refine ⟨fun i hi hp => ?_, fun c hc => ?_⟩
  · by_cases e : i < F.cs.length
    · have e1 : clA (addF F ys (bothB xs)).cs i = clA F.cs i := by simp only [addF]; rw [clA_snoc, if_pos e]
      rw [e1] at hp ⊢
      obtain ⟨c, a, b⟩ := h.1 i e hp
      exact ⟨c, .inl a, b⟩
    · have hi' : i = F.cs.length := by simp [addF] at hi; omega
      refine ⟨xs, .inr rfl, ?_⟩
      simp only [addF]; rw [clA_snoc, if_neg (by omega), if_pos hi']; exact hy
  · rcases hc with hc | rfl
    · obtain ⟨i, h1, h2, h3⟩ := h.2 c hc
      refine ⟨i, by simp [addF]; omega, ?_, ?_⟩
      · simp only [addF]; rw [clA_snoc, if_pos h1]; exact h2
      · simp only [addF]; rw [clA_snoc, if_pos h1]; exact h3
    · refine ⟨F.cs.length, by simp [addF], ?_, ?_⟩
      · simp only [addF]; rw [clA_snoc, if_neg (by omega), if_pos rfl]
      · simp only [addF]; rw [clA_snoc, if_neg (by omega), if_pos rfl]; exact hy
theorem mem_snoc {cs : List (List Int)} {k : Nat} (h : k < cs.length) (d : List Int) : d ∈ cs.take (k + 1) ↔ d ∈ cs.take k ∨ d = cs.getD k [] := by
  have : cs.getD k [] = cs[k] := by simp [List.getD, List.getElem?_eq_getElem h]
  rw [List.take_succ_eq_append_getElem h, List.mem_append, List.mem_singleton, this]
theorem add_same {F F' : Eng} {xs : List Int} (a : AddE F xs F') : F'.n = F.n ∧ F'.L = F.L ∧ F'.cs.length ≤ F.cs.length + 1 := by
  rcases a with ⟨_, rfl⟩ | ⟨_, ys, _, rfl⟩
  · exact ⟨rfl, rfl, by omega⟩
  · exact ⟨rfl, rfl, by simp [addF]⟩
/-- An engine that a list's first k clauses were added to, behind those for which Q; all fitted. -/
structure At (N K : Nat) (Q : List Int → Prop) (cs : List (List Int)) (k : Nat) (F : Eng) : Prop where
  n : F.n = N
  len : F.cs.length ≤ K + k
  of : Of F (fun d => Q d ∨ d ∈ cs.take k)
theorem At.step {N K k : Nat} {Q : List Int → Prop} {cs : List (List Int)} {F F' : Eng} (h : At N K Q cs k F) (hk : k < cs.length) (hf : fitsB N (cs.getD k []) = true) (a : AddE F (cs.getD k []) F') : At N K Q cs (k + 1) F' :=
  ⟨(add_same a).1.trans h.n, by have := (add_same a).2.2; have := h.len; omega, (h.of.add (by rw [h.n]; exact hf) a).congr fun c => by rw [mem_snoc hk]; simp only [or_assoc]⟩
/-- The same entries' literals. -/
def Twin (F G : Eng) : Prop := (∀ x ∈ F.L, Tr G.L x.l) ∧ ∀ x ∈ G.L, Tr F.L x.l
theorem Twin.swap {F G : Eng} (h : Twin F G) : Twin G F := ⟨h.2, h.1⟩
theorem Twin.of {F G F' G' : Eng} (h : Twin F G) (e1 : F'.L = F.L) (e2 : G'.L = G.L) : Twin F' G' := by unfold Twin; rw [e1, e2]; exact h
theorem err_few {F G : Eng} {l : Int} (hn : F.n = G.n) (tr : ∀ x ∈ F.L, Tr G.L x.l) (e : eErr G l = 0) : eErr F l = 0 := by
  have e0 := eErr_zero.1 e
  rw [eErr_zero]
  rcases errZ_cases G.n G.L l with ⟨_, q⟩ | ⟨_, q⟩ | ⟨h1, v, hv, v1, v2, hf, _⟩
  · omega
  · omega
  · unfold errZ
    rw [if_neg (by rw [h1, hn, hv]; simp; omega), if_neg]
    intro hs
    obtain ⟨x, hx⟩ := Option.isSome_iff_exists.1 hs
    obtain ⟨z, hz, ez⟩ := tr x (List.mem_of_find?_eq_some hx)
    have hxv := List.find?_some hx
    rw [findE, List.find?_eq_none] at hf
    have := hf z hz
    rw [ez] at this
    exact this hxv
theorem decE_same (S : Eng) (l : Int) : (decE S l).n = S.n ∧ (decE S l).cs = S.cs := by
  unfold decE; split <;> exact ⟨rfl, rfl⟩
theorem decE_no {S : Eng} {l : Int} (e : eErr S l ≠ 0) : decE S l = S := by
  unfold decE; rw [if_neg (fun q => e (eErr_zero.2 q))]
theorem Twin.both {F G : Eng} {l : Int} (h : Twin F G) (eF : eErr F l = 0) (eG : eErr G l = 0) : Twin (decE F l) (decE G l) := by
  unfold decE
  rw [if_pos (eErr_zero.1 eF), if_pos (eErr_zero.1 eG)]
  refine ⟨fun x hx => ?_, fun x hx => ?_⟩
  · rcases List.mem_append.1 hx with q | q
    · obtain ⟨z, hz, e⟩ := h.1 x q
      exact ⟨z, List.mem_append_left _ hz, e⟩
    · rw [List.mem_singleton] at q
      subst q
      exact ⟨⟨l, G.le.length + 1, -1⟩, by simp [decideF], rfl⟩
  · rcases List.mem_append.1 hx with q | q
    · obtain ⟨z, hz, e⟩ := h.2 x q
      exact ⟨z, List.mem_append_left _ hz, e⟩
    · rw [List.mem_singleton] at q
      subst q
      exact ⟨⟨l, F.le.length + 1, -1⟩, by simp [decideF], rfl⟩
/-- What the two Propagates answer. -/
theorem twin_prop {F G : Eng} {Q : List Int → Prop} (hQ : Of F Q) (kQ : Of G Q) (h : Twin F G) (hF : Inv F) (hG : Inv G) :
    (0 ≤ (propF F).2 ∧ 0 ≤ (propF G).2) ∨ ((propF F).2 = -1 ∧ (propF G).2 = -1 ∧ ∀ v : Int, 1 ≤ v → v ≤ 100000 → valZ (propF F).1.L v = valZ (propF G).1.L v) := by
  have hm : ∀ {S : Eng}, Inv S → (propF S).2 = -1 ∨ 0 ≤ (propF S).2 := fun {S} hS => by
    rcases (inv_prop hS).2.2 with ⟨a, _⟩ | ⟨id, a, _⟩
    · exact .inl a
    · exact .inr (by omega)
  have both : (propF F).2 = -1 → (propF G).2 = -1 → ∀ v : Int, 1 ≤ v → v ≤ 100000 → valZ (propF F).1.L v = valZ (propF G).1.L v := fun a b v v0 v1 => by
    have t1 := (prop_sub hF hG (hQ.sub kQ) h.1 b).2
    have t2 := (prop_sub hG hF (kQ.sub hQ) h.2 a).2
    have ho : LitM.one v = true := (one_iff v).2 (by omega)
    by_cases z : valZ (propF F).1.L v = 0
    · by_cases z2 : valZ (propF G).1.L v = 0
      · rw [z, z2]
      · exact val_same (inv_prop hG).1.pre (inv_prop hF).1.pre ho t2 z2
    · exact (val_same (inv_prop hF).1.pre (inv_prop hG).1.pre ho t1 z).symm
  rcases hm hF with a | a
  · have b := (prop_sub hG hF (kQ.sub hQ) h.2 a).1
    exact .inr ⟨a, b, both a b⟩
  · rcases hm hG with b | b
    · have := (prop_sub hF hG (hQ.sub kQ) h.1 b).1
      omega
    · exact .inl ⟨a, b⟩
theorem At.new (N : Nat) (cs : List (List Int)) : At N 0 (fun _ => False) cs 0 (newE N) := ⟨rfl, by simp [newE], (Of.new N).congr fun c => by simp⟩
theorem At.dec {N K k : Nat} {Q : List Int → Prop} {cs : List (List Int)} {F : Eng} (h : At N K Q cs k F) (l : Int) : At N K Q cs k (decE F l) :=
  ⟨(decE_same F l).1.trans h.n, by rw [(decE_same F l).2]; exact h.len, h.of.cs (decE_same F l).2⟩
theorem At.next {N k : Nat} {cs ds : List (List Int)} {F : Eng} (h : At N 0 (fun _ => False) cs k F) (hk : cs.length = k) : At N k (fun d => d ∈ cs) ds 0 F :=
  ⟨h.n, by have := h.len; omega, h.of.congr fun c => by rw [← hk, List.take_length]; simp⟩
theorem At.all {N k : Nat} {cs : List (List Int)} {F : Eng} (h : At N 0 (fun _ => False) cs k F) (hk : cs.length = k) : Of F (fun d => d ∈ cs) := h.of.congr fun c => by rw [← hk, List.take_length]; simp
theorem At.two {N K k y : Nat} {cs : List (List Int)} {F : Eng} (h : At N K (fun d => d ∈ cs.drop y) (cs.take y) k F) (hk : (cs.take y).length = k) : Of F (fun d => d ∈ cs) := h.of.congr fun c => by
  rw [← hk, List.take_length]
  conv => rhs; rw [← List.take_append_drop y cs, List.mem_append]
  exact Or.comm
theorem Twin.none {F G : Eng} (h : F.L = []) (k : G.L = []) : Twin F G := by
  unfold Twin; rw [h, k]; exact ⟨fun x hx => by (cases hx), fun x hx => by (cases hx)⟩
section
variable {B b b1 b2 : Nat} {w0 w : World} {S S1 S2 : Eng}
theorem Duo.addV (h : Duo B w0 w b1 S1 b2 S2) (hcn : S1.cs.length ≤ 20000) (A : Option Addr) (n c : Nat) (xs : List Int) (hr : Rd .i32 w w.heap.size A n xs) (h32 : In32 xs) (hm : n ≤ 10000) :
    Calls Try.prog 9 #[.pointer (some ⟨b1, 0, none⟩), .slice A n c] w fun e w' => ∃ x S', e = .returned (.tuple #[.int .i64 x, .int .i64 (if fitsB S1.n xs = true then 0 else 51)]) ∧ AddE S1 xs S' ∧ Duo B w0 w' b1 S' b2 S2 := by
  obtain ⟨q1, q2, h1, h2, i1, i2, hd, hb1, hb2, h0, hs⟩ := h
  have hsm := i1.small
  have hl := hr.len
  refine (add_any h1 hsm.n (by omega) (by have := hsm.ln; omega) A n c xs hr h32 hm).mono fun e w' ht => ?_
  rcases ht with ⟨a, e1, q', hE', hX⟩ | ⟨a, e1, q', ys, hc, hE', hX⟩
  · exact ⟨_, S1, by rw [if_neg (by rw [a]; decide)]; exact e1, .inl ⟨a, rfl⟩, Duo.to h2 i2 hd hb1 hb2 h0 hs hE' i1 hX⟩
  · exact ⟨_, _, by rw [if_pos a]; exact e1, .inr ⟨a, ys, hc, rfl⟩, Duo.to h2 i2 hd hb1 hb2 h0 hs hE' (inv_add i1 a hc (by have := clean_le hc; omega)) hX⟩
end
end Go.Proofs.Ytjhopjokllkipaa
namespace Go.Proofs.Ytjhopjokllkipaa.WOrd
open Go.ChangeShapes Go.WideShapes Go.ChangeAt Go.RowKit LitM TrailM EngM

section
variable {B b b1 b2 : Nat} {w0 w : World} {S S1 S2 : Eng}
theorem new_one {N : Nat} (hN : N ≤ 90000) (h0 : Below B w0 w) (hs : B ≤ w.heap.size) :
    Calls Try.prog 8 #[.int .i64 (N : Int)] w fun e w' => ∃ b, e = .returned (.pointer (some ⟨b, 0, none⟩)) ∧ Solo B w0 w' b (newE N) :=
  (enew_any (N : Int) w (by omega)).mono fun e w' hm => by rw [Int.toNat_natCast] at hm; exact Solo.make hm hN h0 hs
theorem new_two {N : Nat} (hN : N ≤ 90000) (h : Solo B w0 w b1 S1) :
    Calls Try.prog 8 #[.int .i64 (N : Int)] w fun e w' => ∃ b, e = .returned (.pointer (some ⟨b, 0, none⟩)) ∧ Duo B w0 w' b1 S1 b (newE N) :=
  (enew_any (N : Int) w (by omega)).mono fun e w' hm => by rw [Int.toNat_natCast] at hm; exact Solo.more h hm hN
end

set_option maxHeartbeats 6400000 in
set_option maxRecDepth 100000 in
theorem walk (v : Int) (A : Option Addr) (n c : Nat) (cs : List (List Int)) (A2 : Option Addr) (n2 c2 : Nat) (xs : List Int) (y : Int) (w : World)
    (hf : RdF w w.heap.size A n cs) (hA : A = none → n = 0 ∧ c = 0) (hnc : n ≤ c) (hcm : c ≤ 9223372036854775807) (hx : Rd .i32 w w.heap.size A2 n2 xs) (h32 : ∀ c ∈ cs, In32 c) (hx32 : In32 xs) :
    Calls Try.prog 5 #[.agg #[.int .i64 v, .slice A n c], .slice A2 n2 c2, .int .i64 y] w fun e w' => e = .returned (.bool true) ∧ Below w.heap.size w w' := by
  obtain ⟨W0, hW0⟩ : ∃ W0, W0 = w.alloc (.cells #[.int .i64 v, .slice A n c] 59) := ⟨_, rfl⟩
  have hs0 : W0.heap.size = w.heap.size + 1 := by rw [hW0]; simp
  have hB0 : Below w.heap.size w W0 := by rw [hW0]; exact (Below.refl _ _).alloc (Nat.le_refl _) _
  have HLF := Lib.hid hf.len
  have HLX := Lib.hid hx.len
  have HNA := Lib.hid hA
  have HT : Hid (∀ W, Below (w.heap.size + 1) W0 W → W.cell? ⟨w.heap.size, 0, none⟩ = some (.int .i64 v) ∧ W.cell? ⟨w.heap.size, 1, none⟩ = some (.slice A n c)) := by rw [hW0]; exact fun W h => frm_cells h
  have HRF : Hid (∀ W, Below (w.heap.size + 1) W0 W → RdF W (w.heap.size + 1) A n cs) := fun W h => (((hf.below hB0).more (by omega : w.heap.size ≤ w.heap.size + 1)).below h)
  have HRX : Hid (∀ W, Below (w.heap.size + 1) W0 W → Rd .i32 W (w.heap.size + 1) A2 n2 xs) := fun W h => (((hx.below hB0).more (by omega : w.heap.size ≤ w.heap.size + 1)).below h)
  have HBW : Hid (∀ W, Below (w.heap.size + 1) W0 W → Below w.heap.size w W) := fun W h => hB0.trans (h.mono (by omega))
  have HZ : Hid (∀ W, Below (w.heap.size + 1) W0 W → w.heap.size + 1 ≤ W.heap.size) := fun W h => by have := h.size; omega
  have H32 := Lib.hid h32
  have HX32 := Lib.hid hx32
  clear hf hx h32 hx32 hB0 hA
  go_enter Try.func5, Try.ntmps5
  go_wp2_with fail
  rw [← hW0]
  refine (walive_any W0).mono ?_
  rintro e w1 ⟨rfl, hB⟩
  have HB1 : Hid (Below (w.heap.size + 1) W0 w1) := by rw [← hs0]; exact hB
  obtain ⟨hf0, hf1⟩ := HT.out _ HB1.out
  clear hB hW0 hs0
  by_cases hv0 : ¬ v < 0
  case neg =>
    have thv00 : decide (v < 0) = true := decide_eq_true (by omega)
    go_wp2_with fail
    go_ret
    exact ⟨rfl, HBW.out _ HB1.out⟩
  have thv00 : decide (v < 0) = false := decide_eq_false (by omega)
  by_cases hv1 : ¬ 30 < v
  case neg =>
    have thv10 : decide (30 < v) = true := decide_eq_true (by omega)
    go_wp2_with fail
    go_ret
    exact ⟨rfl, HBW.out _ HB1.out⟩
  have thv10 : decide (30 < v) = false := decide_eq_false (by omega)
  by_cases hn : ¬ 60 < n
  case neg =>
    have thn0 : decide (60 < n) = true := decide_eq_true (by omega)
    have thn1 : decide ((60 : Int) < (n : Int)) = true := decide_eq_true (by omega)
    go_wp2_with fail
    go_ret
    exact ⟨rfl, HBW.out _ HB1.out⟩
  have thn0 : decide (60 < n) = false := decide_eq_false (by omega)
  have thn1 : decide ((60 : Int) < (n : Int)) = false := decide_eq_false (by omega)
  by_cases hn2 : ¬ 20 < n2
  case neg =>
    have thn20 : decide (20 < n2) = true := decide_eq_true (by omega)
    have thn21 : decide ((20 : Int) < (n2 : Int)) = true := decide_eq_true (by omega)
    go_wp2_with fail
    go_ret
    exact ⟨rfl, HBW.out _ HB1.out⟩
  have thn20 : decide (20 < n2) = false := decide_eq_false (by omega)
  have thn21 : decide ((20 : Int) < (n2 : Int)) = false := decide_eq_false (by omega)
  by_cases hy0 : ¬ y < 0
  case neg =>
    have thy00 : decide (y < 0) = true := decide_eq_true (by omega)
    go_wp2_with fail
    go_ret
    exact ⟨rfl, HBW.out _ HB1.out⟩
  have thy00 : decide (y < 0) = false := decide_eq_false (by omega)
  by_cases hy1 : ¬ (n : Int) < y
  case neg =>
    have thy10 : decide ((n : Int) < y) = true := decide_eq_true (by omega)
    go_wp2_with fail
    go_ret
    exact ⟨rfl, HBW.out _ HB1.out⟩
  have thy10 : decide ((n : Int) < y) = false := decide_eq_false (by omega)
  obtain ⟨N, rfl⟩ : ∃ N : Nat, v = (N : Int) := ⟨v.toNat, by omega⟩
  obtain ⟨Y, rfl⟩ : ∃ Y : Nat, y = (Y : Int) := ⟨y.toNat, by omega⟩
  have hN : N ≤ 30 := by omega
  have hY : Y ≤ n := by omega
  go_wp2_with fail
  have HN1 : Hid (∀ q, Calls Try.prog 8 #[.int .i64 (N : Int)] (w1.drewN q) fun e w' => ∃ b, e = .returned (.pointer (some ⟨b, 0, none⟩)) ∧ Solo (w.heap.size + 1) W0 w' b (newE N)) := fun q =>
    new_one (by omega) (below_drewN HB1.out q) (HZ.out _ (below_drewN HB1.out q))
  clear thv00 thv10 thn0 thn1 thn20 thn21 thy00 thy10
  go_cut [7, 8] (fun p q wx => ∃ b1 b2, p = .pointer (some ⟨b1, 0, none⟩) ∧ q = .pointer (some ⟨b2, 0, none⟩) ∧ Hid (Duo (w.heap.size + 1) W0 wx b1 (newE N) b2 (newE N)))
  case first =>
    refine wp_region_any (by kernel_rfl) ?_
    change wpAny _ _ _ _ _ _ _ (World.drew _)
    refine wpAny_take (i := 0) (v := ?_) rfl (by kernel_rfl) (by kernel_rfl) (by kernel_rfl) (fun _ _ _ h => h) (Or.inl ⟨by kernel_rfl, ?_⟩) ?_
    rotate_left 1
    · (intro w; go_simp <;> with_reducible rfl)
    go_simp
    refine wpAny_take (i := 3) (v := ?_) rfl (by kernel_rfl) (by kernel_rfl) (by kernel_rfl) (fun _ _ _ h => h) (Or.inl ⟨by kernel_rfl, ?_⟩) ?_
    rotate_left 1
    · (intro w; go_simp <;> with_reducible rfl)
    go_simp
    refine wpAny_ready (rs := [1, 4]) (by kernel_rfl) (by simp) ?_
    refine AllReady.cons rfl (fun K hK => ?_) ?_
    ·
      go_simp
      refine hK _ _ ?_; clear hK K
      refine wpAny_ready (rs := [2, 4]) (by kernel_rfl) (by simp) ?_
      refine AllReady.cons rfl (fun K hK => ?_) ?_
      ·
        go_simp
        go_wp2_with ((go_at_call 8; refine (HN1.out 1).mono ?_; rintro e w2 ⟨b1, rfl, h1⟩; have HS1 := Lib.hid h1; obtain ⟨g0, g1⟩ := HT.out _ h1.out; have HN2 := Lib.hid (new_two (N := N) (by omega) h1); clear h1))
        first | (refine hK _ _ ?_; clear hK K) | skip
        refine wpAny_ready (rs := [4]) (by kernel_rfl) (by simp) ?_
        refine AllReady.cons rfl (fun K hK => ?_) ?_
        ·
          go_simp
          refine hK _ _ ?_; clear hK K
          refine wpAny_ready (rs := [5]) (by kernel_rfl) (by simp) ?_
          refine AllReady.cons rfl (fun K hK => ?_) ?_
          ·
            go_simp
            go_wp2_with ((go_at_call 8; refine HN2.out.mono ?_; rintro e w3 ⟨b2, rfl, h2⟩; have HD := Lib.hid h2; clear h2))
            first | (refine hK _ _ ?_; clear hK K) | skip
            refine wpAny_take (i := 6) (v := ?_) rfl (by kernel_rfl) (by kernel_rfl) (by kernel_rfl) (fun _ _ _ h => h) (Or.inl ⟨by kernel_rfl, ?_⟩) ?_
            rotate_left 1
            · (intro w; go_simp <;> with_reducible rfl)
            go_simp
            refine wpAny_take (i := 7) (v := ?_) rfl (by kernel_rfl) (by kernel_rfl) (by kernel_rfl) (fun _ _ _ h => h) (Or.inl ⟨by kernel_rfl, ?_⟩) ?_
            rotate_left 1
            · (intro w; go_simp <;> with_reducible rfl)
            go_simp
            refine wpAny_done (by kernel_rfl) ?_ _
            (go_wp2_with fail; go_meet; exact ⟨b1, b2, rfl, rfl, HD⟩)
          exact AllReady.nil
        exact AllReady.nil
      refine AllReady.cons rfl (fun K hK => ?_) ?_
      ·
        go_simp
        refine hK _ _ ?_; clear hK K
        refine wpAny_ready (rs := [2]) (by kernel_rfl) (by simp) ?_
        refine AllReady.cons rfl (fun K hK => ?_) ?_
        ·
          go_simp
          go_wp2_with ((go_at_call 8; refine (HN1.out 1).mono ?_; rintro e w2 ⟨b1, rfl, h1⟩; have HS1 := Lib.hid h1; obtain ⟨g0, g1⟩ := HT.out _ h1.out; have HN2 := Lib.hid (new_two (N := N) (by omega) h1); clear h1))
          first | (refine hK _ _ ?_; clear hK K) | skip
          refine wpAny_ready (rs := [5]) (by kernel_rfl) (by simp) ?_
          refine AllReady.cons rfl (fun K hK => ?_) ?_
          ·
            go_simp
            go_wp2_with ((go_at_call 8; refine HN2.out.mono ?_; rintro e w3 ⟨b2, rfl, h2⟩; have HD := Lib.hid h2; clear h2))
            first | (refine hK _ _ ?_; clear hK K) | skip
            refine wpAny_take (i := 6) (v := ?_) rfl (by kernel_rfl) (by kernel_rfl) (by kernel_rfl) (fun _ _ _ h => h) (Or.inl ⟨by kernel_rfl, ?_⟩) ?_
            rotate_left 1
            · (intro w; go_simp <;> with_reducible rfl)
            go_simp
            refine wpAny_take (i := 7) (v := ?_) rfl (by kernel_rfl) (by kernel_rfl) (by kernel_rfl) (fun _ _ _ h => h) (Or.inl ⟨by kernel_rfl, ?_⟩) ?_
            rotate_left 1
            · (intro w; go_simp <;> with_reducible rfl)
            go_simp
            refine wpAny_done (by kernel_rfl) ?_ _
            (go_wp2_with fail; go_meet; exact ⟨b1, b2, rfl, rfl, HD⟩)
          exact AllReady.nil
        exact AllReady.nil
      exact AllReady.nil
    refine AllReady.cons rfl (fun K hK => ?_) ?_
    ·
      go_simp
      refine hK _ _ ?_; clear hK K
      refine wpAny_ready (rs := [1]) (by kernel_rfl) (by simp) ?_
      refine AllReady.cons rfl (fun K hK => ?_) ?_
      ·
        go_simp
        refine hK _ _ ?_; clear hK K
        refine wpAny_ready (rs := [2]) (by kernel_rfl) (by simp) ?_
        refine AllReady.cons rfl (fun K hK => ?_) ?_
        ·
          go_simp
          go_wp2_with ((go_at_call 8; refine (HN1.out 1).mono ?_; rintro e w2 ⟨b1, rfl, h1⟩; have HS1 := Lib.hid h1; obtain ⟨g0, g1⟩ := HT.out _ h1.out; have HN2 := Lib.hid (new_two (N := N) (by omega) h1); clear h1))
          first | (refine hK _ _ ?_; clear hK K) | skip
          refine wpAny_ready (rs := [5]) (by kernel_rfl) (by simp) ?_
          refine AllReady.cons rfl (fun K hK => ?_) ?_
          ·
            go_simp
            go_wp2_with ((go_at_call 8; refine HN2.out.mono ?_; rintro e w3 ⟨b2, rfl, h2⟩; have HD := Lib.hid h2; clear h2))
            first | (refine hK _ _ ?_; clear hK K) | skip
            refine wpAny_take (i := 6) (v := ?_) rfl (by kernel_rfl) (by kernel_rfl) (by kernel_rfl) (fun _ _ _ h => h) (Or.inl ⟨by kernel_rfl, ?_⟩) ?_
            rotate_left 1
            · (intro w; go_simp <;> with_reducible rfl)
            go_simp
            refine wpAny_take (i := 7) (v := ?_) rfl (by kernel_rfl) (by kernel_rfl) (by kernel_rfl) (fun _ _ _ h => h) (Or.inl ⟨by kernel_rfl, ?_⟩) ?_
            rotate_left 1
            · (intro w; go_simp <;> with_reducible rfl)
            go_simp
            refine wpAny_done (by kernel_rfl) ?_ _
            (go_wp2_with fail; go_meet; exact ⟨b1, b2, rfl, rfl, HD⟩)
          exact AllReady.nil
        exact AllReady.nil
      exact AllReady.nil
    exact AllReady.nil
  case rest =>
  obtain ⟨b1, b2, rfl, rfl, HD⟩ := hcut
  clear hf0 hf1 HN1 HB1
  obtain ⟨hf0, hf1⟩ := HT.out _ HD.out.out
  go_wp2_with fail
  go_loopw [63] (fun p wr => ∃ k F, p = .int .i64 ((k : Nat) : Int) ∧ k ≤ n ∧ F.L = [] ∧ Hid (At N 0 (fun _ => False) cs k F) ∧ Hid (∀ c ∈ cs.take k, fitsB N c = true ∧ c.length ≤ 20) ∧ Hid (Duo (w.heap.size + 1) W0 wr b1 F b2 (newE N))) (fun v _ => n - (intOf v).toNat)
  case atStart => exact ⟨0, _, rfl, by omega, rfl, At.new N cs, fun c hc => by simp at hc, HD⟩
  case round =>
    obtain ⟨k, F, rfl, hk, hFL, HAt, HFT, HD2⟩ := hrel
    clear HD hf0 hf1
    obtain ⟨hf0, hf1⟩ := HT.out _ HD2.out.out
    by_cases hlt : k < n
    · have tk : decide (k < n) = true := decide_eq_true hlt
      have hcf : F.cs.length ≤ 20000 := by have := HAt.out.len; omega
      obtain ⟨bk, o, Ak, nk, ck, rfl, hbk, hc, hRk⟩ := (HRF.out _ HD2.out.out).get hlt
      have hkc : k < cs.length := by have := HLF.out; omega
      have hmem : cs.getD k [] ∈ cs := by rw [List.getD, List.getElem?_eq_getElem hkc]; exact List.getElem_mem _
      have HI := Lib.hid (H32.out _ hmem)
      clear hmem
      by_cases hnk : ¬ 20 < nk
      case neg =>
        have s0 : decide (20 < nk) = true := decide_eq_true (by omega)
        have s1 : decide ((20 : Int) < (nk : Int)) = true := decide_eq_true (by omega)
        go_wp2_with fail
        go_ret
        exact ⟨rfl, HBW.out _ HD2.out.out⟩
      have s0 : decide (20 < nk) = false := decide_eq_false (by omega)
      have s1 : decide ((20 : Int) < (nk : Int)) = false := decide_eq_false (by omega)
      have HA := Lib.hid (HD2.out.addV hcf Ak nk ck _ (hRk.more (HZ.out _ HD2.out.out)) HI.out (by omega))
      have HNK : Hid ((cs.getD k []).length ≤ 20) := by have := hRk.len; exact (by omega : (cs.getD k []).length ≤ 20)
      clear hRk
      rw [HAt.out.n] at HA
      by_cases hfit : fitsB N (cs.getD k []) = true
      · rw [if_pos hfit] at HA
        go_wp2_with fail
        refine HA.out.mono ?_
        rintro e w4 ⟨r1, F', rfl, aF, h4⟩
        have HD4 := Lib.hid h4
        have HA4 := Lib.hid (HAt.out.step hkc hfit aF)
        have hL4 : F'.L = [] := (add_same aF).2.1.trans hFL
        have HF4 : Hid (∀ c ∈ cs.take (k + 1), fitsB N c = true ∧ c.length ≤ 20) := fun c hc => by
          rcases (mem_snoc hkc c).1 hc with e | rfl
          · exact HFT.out c e
          · exact ⟨hfit, HNK.out⟩
        clear h4 aF HA
        go_wp2_with fail
        go_roundw
        case rel => exact ⟨k + 1, F', by go_num, by omega, hL4, HA4, HF4, HD4⟩
        case measure => simp [intOf]; omega
      · rw [if_neg hfit] at HA
        go_wp2_with fail
        refine HA.out.mono ?_
        rintro e w4 ⟨r1, F', rfl, aF, h4⟩
        have HO := Lib.hid h4.out
        clear h4 aF HA
        go_wp2_with fail
        go_ret
        exact ⟨rfl, HBW.out _ HO.out⟩
    have tk : decide (k < n) = false := decide_eq_false hlt
    obtain rfl : k = n := by omega
    have HFIT : Hid (∀ c ∈ cs, fitsB N c = true ∧ c.length ≤ 20) := fun c hc => HFT.out c (by rw [← HLF.out, List.take_length]; exact hc)
    clear HFT
    go_upto_region 15 with (fail)
    clear tk hlt hk
    go_cut [82, 83, 84] (fun p q r wx => ∃ A' c', p = .slice A' (k - Y) c' ∧ q = .int .i64 ((k - Y : Nat) : Int) ∧ r = .int .i64 0 ∧ Hid (∀ W, Below (w.heap.size + 1) W0 W → RdF W (w.heap.size + 1) A' (k - Y) (cs.drop Y)) ∧ wx = wr)
    case first =>
      by_cases hcY : c = Y
      · have e0 : k = Y := by omega
        have HRG : Hid (∀ W, Below (w.heap.size + 1) W0 W → RdF W (w.heap.size + 1) A (k - Y) (cs.drop Y)) := fun W h => by
          have := (HRF.out W h).dropped hY hnc; rw [if_pos hcY] at this; exact this
        go_wp2_with fail
        go_meet
        exact ⟨A, 0, by rw [show k - Y = 0 from by omega], by rw [show k - Y = 0 from by omega]; rfl, rfl, HRG, by first | trivial | rfl⟩
      · have HRG : Hid (∀ W, Below (w.heap.size + 1) W0 W → RdF W (w.heap.size + 1) (A.map (·.add Y)) (k - Y) (cs.drop Y)) := fun W h => by
          have := (HRF.out W h).dropped hY hnc; rw [if_neg hcY] at this; exact this
        go_wp2_with fail
        go_meet
        exact ⟨_, _, rfl, by go_num, rfl, HRG, by first | trivial | rfl⟩
    case rest =>
    obtain ⟨A', c', rfl, rfl, rfl, HRD, rfl⟩ := hcut
    obtain ⟨m, hm⟩ : ∃ m, m = k - Y := ⟨_, rfl⟩
    rw [← hm] at HRD ⊢
    have HLD : Hid ((cs.drop Y).length = m) := (HRD.out _ HD2.out.out).len
    have hm60 : m ≤ 60 := by omega
    clear hm
    go_wp2_with fail
    go_loopw [84] (fun p wr => ∃ j G, p = .int .i64 ((j : Nat) : Int) ∧ j ≤ m ∧ G.L = [] ∧ Hid (At N 0 (fun _ => False) (cs.drop Y) j G) ∧ Hid (Duo (w.heap.size + 1) W0 wr b1 F b2 G)) (fun v _ => m - (intOf v).toNat)
    case atStart => exact ⟨0, _, rfl, by omega, rfl, At.new N _, HD2⟩
    case round =>
      obtain ⟨j, G, rfl, hj, hGL, HAG, HD3⟩ := hrel
      clear HD2 hf0 hf1
      obtain ⟨hf0, hf1⟩ := HT.out _ HD3.out.out
      by_cases hlt : j < m
      · have tj : decide (j < m) = true := decide_eq_true hlt
        have hcg : G.cs.length ≤ 20000 := by have := HAG.out.len; omega
        obtain ⟨bk, o, Ak, nk, ck, rfl, hbk, hc, hRk⟩ := (HRD.out _ HD3.out.out).get hlt
        have hjc : j < (cs.drop Y).length := by have := HLD.out; omega
        have hmem : (cs.drop Y).getD j [] ∈ cs := by
          rw [List.getD, List.getElem?_eq_getElem hjc]; exact List.mem_of_mem_drop (List.getElem_mem _)
        have hfit := HFIT.out _ hmem
        have hnk : nk ≤ 20 := by have := hRk.len; omega
        have HB := Lib.hid (HD3.out.swap.addV hcg Ak nk ck _ (hRk.more (HZ.out _ HD3.out.out)) (H32.out _ hmem) (by omega))
        generalize (if fitsB G.n ((cs.drop Y).getD j []) = true then (0 : Int) else 51) = ee at HB
        have HF := Lib.hid hfit.1
        clear hRk hmem hfit
        go_wp2_with fail
        refine HB.out.mono ?_
        rintro e w4 ⟨r1, G', rfl, aG, h4⟩
        have HD4 := Lib.hid h4.swap
        have HA4 := Lib.hid (HAG.out.step hjc HF.out aG)
        have hL4 : G'.L = [] := (add_same aG).2.1.trans hGL
        clear h4 aG HB
        go_wp2_with fail
        go_roundw
        case rel => exact ⟨j + 1, G', by go_num, by omega, hL4, HA4, HD4⟩
        case measure => simp [intOf]; omega
      have tj : decide (j < m) = false := decide_eq_false hlt
      obtain rfl : j = m := by omega
      have HTW : Hid (Twin F G) := Twin.none hFL hGL
      go_wp2_with fail
      clear tj hlt hj
      go_loopw [94] (fun p wr => ∃ i F1 G1, p = .int .i64 ((i : Nat) : Int) ∧ i ≤ n2 ∧ Hid (At N 0 (fun _ => False) cs k F1) ∧ Hid (At N 0 (fun _ => False) (cs.drop Y) j G1) ∧ Hid (Twin F1 G1) ∧ Hid (Duo (w.heap.size + 1) W0 wr b1 F1 b2 G1)) (fun v _ => n2 - (intOf v).toNat)
      case atStart => exact ⟨0, F, G, rfl, by omega, HAt, HAG, HTW, HD3⟩
      case round =>
        clear HAt HAG HTW hFL hGL
        obtain ⟨i, F1, G1, rfl, hi, HAt, HAG, HTW, HD4⟩ := hrel
        clear HD3 hf0 hf1
        obtain ⟨hf0, hf1⟩ := HT.out _ HD4.out.out
        by_cases hlt : i < n2
        · have ti : decide (i < n2) = true := decide_eq_true hlt
          obtain ⟨bj, o, rfl, hbj, hc⟩ := (HRX.out _ HD4.out.out).get hlt
          have hil := HX32.out i
          generalize xs.getD i 0 = l at *
          obtain ⟨i0, i1⟩ := hil
          obtain ⟨B1, a1, V1, _⟩ := HD4.out.one.asks
          have HV := Lib.hid (V1 l i0 i1)
          clear V1
          by_cases hz : valZ F1.L l = 0
          · rw [hz] at HV
            have HDE := Lib.hid (HD4.out.decide l i0 i1)
            by_cases hE : eErr F1 l = 0
            · have hG : eErr G1 l = 0 := err_few (HAG.out.n.trans HAt.out.n.symm) HTW.out.2 hE
              have HR5 := Lib.hid (HTW.out.both hE hG)
              rw [hE] at HDE
              go_wp2_with fail
              refine HV.out.mono ?_
              rintro e w' ⟨rfl, rfl⟩
              go_wp2_with fail
              refine HDE.out.mono ?_
              rintro e w4 ⟨rfl, h4⟩
              have HS4 := Lib.hid h4.swap
              have HDG := Lib.hid (HS4.out.decide l i0 i1)
              rw [hG] at HDG
              clear h4 HDE hf0 hf1 hc a1 HV
              go_wp2_with fail
              refine HDG.out.mono ?_
              rintro e w5 ⟨rfl, h5⟩
              have HD5 := Lib.hid h5.swap
              clear h5 HDG HS4
              go_wp2_with fail
              go_roundw
              case rel => exact ⟨i + 1, _, _, by go_num, by omega, HAt.out.dec l, HAG.out.dec l, HR5, HD5⟩
              case measure => simp [intOf]; omega
            · have tz : (eErr F1 l == 0) = false := by simpa using hE
              rw [decE_no hE] at HDE
              generalize eErr F1 l = ee at *
              go_wp2_with fail
              refine HV.out.mono ?_
              rintro e w' ⟨rfl, rfl⟩
              go_wp2_with fail
              refine HDE.out.mono ?_
              rintro e w4 ⟨rfl, h4⟩
              have HD5 := Lib.hid h4
              clear h4 HDE hf0 hf1 hc a1 HV
              go_wp2_with fail
              go_roundw
              case rel => exact ⟨i + 1, _, _, by go_num, by omega, HAt, HAG, HTW, HD5⟩
              case measure => simp [intOf]; omega
          · have tz : (valZ F1.L l == 0) = false := by simpa using hz
            generalize valZ F1.L l = z at *
            go_wp2_with fail
            refine HV.out.mono ?_
            rintro e w' ⟨rfl, rfl⟩
            clear hc a1 HV
            go_wp2_with fail
            go_roundw
            case rel => exact ⟨i + 1, _, _, by go_num, by omega, HAt, HAG, HTW, HD4⟩
            case measure => simp [intOf]; omega
        have ti : decide (i < n2) = false := decide_eq_false hlt
        go_upto_region 26 with (fail)
        clear ti hlt hi
        have hYc : Y ≤ c := by omega
        have HRG : Hid (∀ W, Below (w.heap.size + 1) W0 W → RdF W (w.heap.size + 1) A Y (cs.take Y)) := fun W h => (HRF.out W h).taken hY
        have hA0 : A.map (·.add 0) = A := by cases A <;> simp [Addr.add]
        go_cut [121, 122, 123] (fun p q r wx => ∃ c', p = .slice A Y c' ∧ q = .int .i64 (Y : Int) ∧ r = .int .i64 0 ∧ wx = wr)
        case first =>
          by_cases hcY : c = 0
          · go_wp2_with fail
            go_meet
            exact ⟨_, rfl, by go_num, rfl, by first | trivial | rfl⟩
          · go_wp2_with fail
            go_meet
            first
              | exact ⟨_, rfl, by go_num, rfl, by first | trivial | rfl⟩
              | exact ⟨_, by rw [hA0], by go_num, rfl, by first | trivial | rfl⟩
        case rest =>
        obtain ⟨c4, rfl, rfl, rfl, rfl⟩ := hcut
        clear hA0 HRD
        have HLT : Hid ((cs.take Y).length = Y) := (HRG.out _ HD4.out.out).len
        go_wp2_with fail
        go_loopw [123] (fun p wr => ∃ i G2, p = .int .i64 ((i : Nat) : Int) ∧ i ≤ Y ∧ Hid (At N j (fun d => d ∈ cs.drop Y) (cs.take Y) i G2) ∧ Hid (Twin F1 G2) ∧ Hid (Duo (w.heap.size + 1) W0 wr b1 F1 b2 G2)) (fun v _ => Y - (intOf v).toNat)
        case atStart => exact ⟨0, G1, rfl, by omega, HAG.out.next HLD.out, HTW, HD4⟩
        case round =>
          clear HAG HTW
          obtain ⟨i, G2, rfl, hi, HAG, HTW, HD5⟩ := hrel
          clear HD4 hf0 hf1
          obtain ⟨hf0, hf1⟩ := HT.out _ HD5.out.out
          by_cases hlt : i < Y
          · have ti : decide (i < Y) = true := decide_eq_true hlt
            have hcg : G2.cs.length ≤ 20000 := by have := HAG.out.len; omega
            obtain ⟨bk, o, Ak, nk, ck, rfl, hbk, hc, hRk⟩ := (HRG.out _ HD5.out.out).get hlt
            have hjc : i < (cs.take Y).length := by have := HLT.out; omega
            have hmem : (cs.take Y).getD i [] ∈ cs := by
              rw [List.getD, List.getElem?_eq_getElem hjc]; exact List.mem_of_mem_take (List.getElem_mem _)
            have hfit := HFIT.out _ hmem
            have hnk : nk ≤ 20 := by have := hRk.len; omega
            have HB := Lib.hid (HD5.out.swap.addV hcg Ak nk ck _ (hRk.more (HZ.out _ HD5.out.out)) (H32.out _ hmem) (by omega))
            generalize (if fitsB G2.n ((cs.take Y).getD i []) = true then (0 : Int) else 51) = ee at HB
            have HF := Lib.hid hfit.1
            clear hRk hmem hfit
            go_wp2_with fail
            refine HB.out.mono ?_
            rintro e w4 ⟨r1, G', rfl, aG, h4⟩
            have HD6 := Lib.hid h4.swap
            have HA6 := Lib.hid (HAG.out.step hjc HF.out aG)
            have HT6 : Hid (Twin F1 G') := HTW.out.of rfl (add_same aG).2.1
            clear h4 aG HB
            go_wp2_with fail
            go_roundw
            case rel => exact ⟨i + 1, G', by go_num, by omega, HA6, HT6, HD6⟩
            case measure => simp [intOf]; omega
          have ti : decide (i < Y) = false := decide_eq_false hlt
          obtain rfl : i = Y := by omega
          have hcf : F1.cs.length ≤ 20000 := by have := HAt.out.len; omega
          have hcg : G2.cs.length ≤ 20000 := by have := HAG.out.len; omega
          have HQ := Lib.hid (twin_prop (HAt.out.all HLF.out) (HAG.out.two HLT.out) HTW.out HD5.out.one.inv HD5.out.swap.one.inv)
          have HP1 := Lib.hid (HD5.out.prop hcf)
          go_wp2_with fail
          refine HP1.out.mono ?_
          rintro e w4 ⟨rfl, h4⟩
          have HS4 := Lib.hid h4.swap
          have HP2 := Lib.hid (HS4.out.prop hcg)
          clear h4 HP1 HD5 hf0 hf1
          go_wp2_with fail
          refine HP2.out.mono ?_
          rintro e w5 ⟨rfl, h5⟩
          have HD6 := Lib.hid h5.swap
          clear h5 HP2 HS4 ti hlt
          obtain ⟨hf0, hf1⟩ := HT.out _ HD6.out.out
          have HBX := Lib.hid (HBW.out _ HD6.out.out)
          rcases HQ.out with ⟨q1, q2⟩ | ⟨q1, q2, q3⟩
          · have ta : decide (0 ≤ (propF F1).2) = true := decide_eq_true q1
            have tb : decide (0 ≤ (propF G2).2) = true := decide_eq_true q2
            have tc : decide ((propF F1).2 < 0) = false := decide_eq_false (by omega)
            clear HQ
            go_wp2_with fail
            go_loopw [21] (fun p wr => p = .int .i64 1 ∧ wr = w5) (fun _ _ => 0)
            case atStart => exact ⟨rfl, by first | trivial | rfl⟩
            case round =>
              obtain ⟨rfl, rfl⟩ := hrel
              by_cases h1 : 1 ≤ N
              · have tn : decide (1 ≤ N) = true := decide_eq_true h1
                have tn2 : decide ((1 : Int) ≤ (N : Int)) = true := decide_eq_true (by omega)
                go_wp2_with fail
                go_ret
                exact ⟨rfl, HBX.out⟩
              · have tn : decide (1 ≤ N) = false := decide_eq_false h1
                have tn2 : decide ((1 : Int) ≤ (N : Int)) = false := decide_eq_false (by omega)
                go_wp2_with fail
                go_ret
                exact ⟨rfl, HBX.out⟩
          · rw [q1, q2]
            have HV := Lib.hid q3
            clear q1 q2 q3 HQ HTW HAG HAt hcf hcg HBX hf0 hf1
            obtain ⟨hf0, hf1⟩ := HT.out _ HD6.out.out
            generalize (propF F1).1 = F2 at *
            generalize (propF G2).1 = G3 at *
            go_wp2_with fail
            go_loopw [21] (fun p wr => ∃ u : Nat, p = .int .i64 (u : Int) ∧ 1 ≤ u ∧ u ≤ N + 1 ∧ Hid (Duo (w.heap.size + 1) W0 wr b1 F2 b2 G3)) (fun v _ => N + 1 - (intOf v).toNat)
            case atStart => exact ⟨1, rfl, by omega, by omega, HD6⟩
            case round =>
              obtain ⟨u, rfl, hu, hu2, HD7⟩ := hrel
              clear HD6 hf0 hf1
              obtain ⟨hf0, hf1⟩ := HT.out _ HD7.out.out
              by_cases hlu : u ≤ N
              · have tu : decide (u ≤ N) = true := decide_eq_true hlu
                have tu2 : decide ((u : Int) ≤ (N : Int)) = true := decide_eq_true (by omega)
                have hwr : IntKind.i32.wrap (u : Int) = (u : Int) := by rw [IntKind.wrap_i32]; omega
                have HDd : Hid (Duo (w.heap.size + 1) W0 (wr.drewN 1) b1 F2 b2 G3) := HD7.out.below (below_drewN (Below.refl _ _) 1)
                obtain ⟨B1, a1, _⟩ := HD7.out.one.asks
                obtain ⟨B2, a2, _⟩ := HD7.out.swap.one.asks
                obtain ⟨C1, d1, V1, _⟩ := HDd.out.one.asks
                obtain ⟨C2, d2, V2, _⟩ := HDd.out.swap.one.asks
                have e1 : C1 = B1 := by have := d1.symm.trans a1; simpa using this
                have e2 : C2 = B2 := by have := d2.symm.trans a2; simpa using this
                subst e1 e2
                have HX := Lib.hid (V1 (u : Int) (by omega) (by omega))
                have HY := Lib.hid (V2 (u : Int) (by omega) (by omega))
                rw [← HV.out (u : Int) (by omega) (by omega)] at HY
                clear V1 V2 d1 d2
                generalize valZ F2.L (u : Int) = z at *
                have tz2 : (z != z) = false := by simp
                go_wp2_with fail
                go_cut [164] (fun p wx => p = .bool false ∧ Hid (Duo (w.heap.size + 1) W0 wx b1 F2 b2 G3))
                case first =>
                  refine wp_region_any (by kernel_rfl) ?_
                  change wpAny _ _ _ _ _ _ _ (World.drew _)
                  refine wpAny_take (i := 0) (v := ?_) rfl (by kernel_rfl) (by kernel_rfl) (by kernel_rfl) (fun _ _ _ h => h) (Or.inl ⟨by kernel_rfl, ?_⟩) ?_
                  rotate_left 1
                  · (intro w; go_simp <;> with_reducible rfl)
                  go_simp
                  refine wpAny_take (i := 1) (v := ?_) rfl (by kernel_rfl) (by kernel_rfl) (by kernel_rfl) (fun _ _ _ h => h) (Or.inl ⟨by kernel_rfl, ?_⟩) ?_
                  rotate_left 1
                  · (intro w; go_simp <;> with_reducible rfl)
                  go_simp
                  refine wpAny_take (i := 2) (v := ?_) rfl (by kernel_rfl) (by kernel_rfl) (by kernel_rfl) (fun _ _ _ h => h) (Or.inl ⟨by kernel_rfl, ?_⟩) ?_
                  rotate_left 1
                  · (intro w; go_simp <;> with_reducible rfl)
                  go_simp
                  refine wpAny_take (i := 4) (v := ?_) rfl (by kernel_rfl) (by kernel_rfl) (by kernel_rfl) (fun _ _ _ h => h) (Or.inl ⟨by kernel_rfl, ?_⟩) ?_
                  rotate_left 1
                  · (intro w; go_simp <;> with_reducible rfl)
                  go_simp
                  refine wpAny_take (i := 5) (v := ?_) rfl (by kernel_rfl) (by kernel_rfl) (by kernel_rfl) (fun _ _ _ h => h) (Or.inl ⟨by kernel_rfl, ?_⟩) ?_
                  rotate_left 1
                  · (intro w; go_simp <;> with_reducible rfl)
                  go_simp
                  refine wpAny_take (i := 7) (v := ?_) rfl (by kernel_rfl) (by kernel_rfl) (by kernel_rfl) (fun _ _ _ h => h) (Or.inl ⟨by kernel_rfl, ?_⟩) ?_
                  rotate_left 1
                  · (intro w; go_simp <;> with_reducible rfl)
                  go_simp
                  refine wpAny_take (i := 8) (v := ?_) rfl (by kernel_rfl) (by kernel_rfl) (by kernel_rfl) (fun _ _ _ h => h) (Or.inl ⟨by kernel_rfl, ?_⟩) ?_
                  rotate_left 1
                  · (intro w; go_simp <;> with_reducible rfl)
                  go_simp
                  refine wpAny_take (i := 9) (v := ?_) rfl (by kernel_rfl) (by kernel_rfl) (by kernel_rfl) (fun _ _ _ h => h) (Or.inl ⟨by kernel_rfl, ?_⟩) ?_
                  rotate_left 1
                  · (intro w; go_simp <;> with_reducible rfl)
                  go_simp
                  refine wpAny_take (i := 11) (v := ?_) rfl (by kernel_rfl) (by kernel_rfl) (by kernel_rfl) (fun _ _ _ h => h) (Or.inl ⟨by kernel_rfl, ?_⟩) ?_
                  rotate_left 1
                  · (intro w; go_simp <;> with_reducible rfl)
                  go_simp
                  refine wpAny_take (i := 12) (v := ?_) rfl (by kernel_rfl) (by kernel_rfl) (by kernel_rfl) (fun _ _ _ h => h) (Or.inl ⟨by kernel_rfl, ?_⟩) ?_
                  rotate_left 1
                  · (intro w; go_simp <;> with_reducible rfl)
                  go_simp
                  refine wpAny_ready (rs := [3, 10]) (by kernel_rfl) (by simp) ?_
                  refine AllReady.cons rfl (fun K hK => ?_) ?_
                  ·
                    go_simp
                    refine hK _ _ ?_; clear hK K
                    refine wpAny_ready (rs := [6, 10]) (by kernel_rfl) (by simp) ?_
                    refine AllReady.cons rfl (fun K hK => ?_) ?_
                    ·
                      go_simp
                      go_wp2_with ((go_at_call 12; refine HX.out.mono ?_; rintro e w' ⟨rfl, rfl⟩))
                      first | (refine hK _ _ ?_; clear hK K) | skip
                      refine wpAny_ready (rs := [10]) (by kernel_rfl) (by simp) ?_
                      refine AllReady.cons rfl (fun K hK => ?_) ?_
                      ·
                        go_simp
                        refine hK _ _ ?_; clear hK K
                        refine wpAny_ready (rs := [13]) (by kernel_rfl) (by simp) ?_
                        refine AllReady.cons rfl (fun K hK => ?_) ?_
                        ·
                          go_simp
                          go_wp2_with ((go_at_call 12; refine HY.out.mono ?_; rintro e w' ⟨rfl, rfl⟩))
                          first | (refine hK _ _ ?_; clear hK K) | skip
                          refine wpAny_take (i := 14) (v := ?_) rfl (by kernel_rfl) (by kernel_rfl) (by kernel_rfl) (fun _ _ _ h => h) (Or.inl ⟨by kernel_rfl, ?_⟩) ?_
                          rotate_left 1
                          · (intro w; go_simp <;> with_reducible rfl)
                          go_simp
                          refine wpAny_done (by kernel_rfl) ?_ _
                          (go_wp2_with fail; go_meet; exact ⟨rfl, HDd⟩)
                        exact AllReady.nil
                      exact AllReady.nil
                    refine AllReady.cons rfl (fun K hK => ?_) ?_
                    ·
                      go_simp
                      refine hK _ _ ?_; clear hK K
                      refine wpAny_ready (rs := [6]) (by kernel_rfl) (by simp) ?_
                      refine AllReady.cons rfl (fun K hK => ?_) ?_
                      ·
                        go_simp
                        go_wp2_with ((go_at_call 12; refine HX.out.mono ?_; rintro e w' ⟨rfl, rfl⟩))
                        first | (refine hK _ _ ?_; clear hK K) | skip
                        refine wpAny_ready (rs := [13]) (by kernel_rfl) (by simp) ?_
                        refine AllReady.cons rfl (fun K hK => ?_) ?_
                        ·
                          go_simp
                          go_wp2_with ((go_at_call 12; refine HY.out.mono ?_; rintro e w' ⟨rfl, rfl⟩))
                          first | (refine hK _ _ ?_; clear hK K) | skip
                          refine wpAny_take (i := 14) (v := ?_) rfl (by kernel_rfl) (by kernel_rfl) (by kernel_rfl) (fun _ _ _ h => h) (Or.inl ⟨by kernel_rfl, ?_⟩) ?_
                          rotate_left 1
                          · (intro w; go_simp <;> with_reducible rfl)
                          go_simp
                          refine wpAny_done (by kernel_rfl) ?_ _
                          (go_wp2_with fail; go_meet; exact ⟨rfl, HDd⟩)
                        exact AllReady.nil
                      exact AllReady.nil
                    exact AllReady.nil
                  refine AllReady.cons rfl (fun K hK => ?_) ?_
                  ·
                    go_simp
                    refine hK _ _ ?_; clear hK K
                    refine wpAny_ready (rs := [3]) (by kernel_rfl) (by simp) ?_
                    refine AllReady.cons rfl (fun K hK => ?_) ?_
                    ·
                      go_simp
                      refine hK _ _ ?_; clear hK K
                      refine wpAny_ready (rs := [6]) (by kernel_rfl) (by simp) ?_
                      refine AllReady.cons rfl (fun K hK => ?_) ?_
                      ·
                        go_simp
                        go_wp2_with ((go_at_call 12; refine HX.out.mono ?_; rintro e w' ⟨rfl, rfl⟩))
                        first | (refine hK _ _ ?_; clear hK K) | skip
                        refine wpAny_ready (rs := [13]) (by kernel_rfl) (by simp) ?_
                        refine AllReady.cons rfl (fun K hK => ?_) ?_
                        ·
                          go_simp
                          go_wp2_with ((go_at_call 12; refine HY.out.mono ?_; rintro e w' ⟨rfl, rfl⟩))
                          first | (refine hK _ _ ?_; clear hK K) | skip
                          refine wpAny_take (i := 14) (v := ?_) rfl (by kernel_rfl) (by kernel_rfl) (by kernel_rfl) (fun _ _ _ h => h) (Or.inl ⟨by kernel_rfl, ?_⟩) ?_
                          rotate_left 1
                          · (intro w; go_simp <;> with_reducible rfl)
                          go_simp
                          refine wpAny_done (by kernel_rfl) ?_ _
                          (go_wp2_with fail; go_meet; exact ⟨rfl, HDd⟩)
                        exact AllReady.nil
                      exact AllReady.nil
                    exact AllReady.nil
                  exact AllReady.nil
                case rest =>
                obtain ⟨rfl, HD8⟩ := hcut
                clear a1 a2 hf0 hf1 HX HY HDd
                go_wp2_with fail
                go_roundw
                case rel => exact ⟨u + 1, by go_num, by omega, by omega, HD8⟩
                case measure => simp [intOf]; omega
              have tu : decide (u ≤ N) = false := decide_eq_false hlu
              have tu2 : decide ((u : Int) ≤ (N : Int)) = false := decide_eq_false (by omega)
              go_wp2_with fail
              go_ret
              exact ⟨rfl, HBW.out _ HD7.out.out⟩
set_option maxHeartbeats 800000 in
set_option maxRecDepth 100000 in
theorem lifted (os : Os) (started : os.Started) (H : Type) (enc : TypeId × Value → H) :
    ReturnsInHanded {} Try.checked os 5 .any (Rows.watchOrdersSpec.pre6 enc Try.prog Try.f5 Rows.watchOrdersRow.domain false) (Rows.watchOrdersSpec.post enc Try.prog Try.f5 false true false false) := by
  refine returnsInHanded_of_change (C := Try.checked) own_knob5 started (by kernel_rfl) Try.func5
    (ChangeSpec.witness6 (enc := enc) (C := Try.checked) false ⟨#[], #[.agg #[.int .i64 0, .slice none 0 0], .slice none 0 0, .int .i64 0], []⟩ 8 (by kernel_rfl) (by kernel_rfl) (by kernel_rfl) (by kernel_rfl)) ?_
  intro W base args ds gs before hval0 hW _ _
  have hval : ∀ (j : Nat) t v, Try.f5.params[j]? = some t → args[j]? = some v → Value.okWide Try.prog W .any base t v := hval0
  have hW' := hW
  obtain ⟨p, q, hA0, hV, rfl, _, _⟩ := hW
  have hA : DataW.TrodAll enc Try.prog W 0 (fun _ => true) true Try.f5.params.toList args.toList ds p := hA0
  rw [Try.params5] at hA hval
  obtain ⟨v0, v1, v2, d0, d1, d2, p0, p1, p2, rfl, rfl, rfl, h0, h1, h2⟩ := trodAll_three hA
  obtain ⟨rfl, rfl⟩ := trodVars_none hV
  obtain ⟨a0, A0, n0, c0, cs0, rfl, hR0, h320, _, _, _, _, hA0, hnc0, hcm0⟩ := open_form (hval 0 59 v0 rfl rfl) h0
  obtain ⟨A1, n1, c1, xs1, rfl, hR1, h321, _⟩ := open_lits (hval 1 44 v1 rfl rfl) h1
  obtain ⟨a2, rfl, rfl, rfl, w2⟩ := open_int Try.underlying3 (hval 2 3 v2 rfl rfl) h2
  clear hA0 hval0
  simp only [List.append_nil] at hW'
  have hlt0 : ∀ y ∈ p0, y.block < W.heap.size := fun y hy => by simpa using hW'.lt y (by simp [hy])
  have hlt1 : ∀ y ∈ p1, y.block < W.heap.size := fun y hy => by simpa using hW'.lt y (by simp [hy])
  refine (walk a0 A0 n0 c0 cs0 A1 n1 c1 xs1 a2 W hR0 hA0 hnc0 hcm0 hR1 h320 h321).mono fun e W' ⟨he, hB⟩ => ?_
  subst he
  exact ⟨_, rfl, _, _, _, [], _, [], hW', trodAll_mk1 (shut_bool Try.underlying4 true), trodAll_mk3 (Below.trod laid_out (by kernel_rfl) (of_decide_eq_true (by kernel_rfl)) h0 hB hlt0) (Below.trod laid_out (by kernel_rfl) (of_decide_eq_true (by kernel_rfl)) h1 hB hlt1) (shut_int Try.underlying3 w2), rfl, hB.frame _, fun h => by cases h⟩

theorem proved : Rows.WatchOrdersSaid :=
  OpenClaim.holds_of_wide 5 Try.f5 rfl rfl rfl rfl rfl rfl rfl ⟨rfl, rfl, rfl, rfl, rfl⟩ rfl rfl rfl rfl rfl (by kernel_rfl) Try.func5 (by kernel_rfl)
    (of_decide_eq_true (by kernel_rfl)) (by unfold Func.isWrapper; first | (rw [if_pos (by decide +kernel)]; kernel_rfl) | (rw [if_neg (by decide +kernel)]; exact ⟨rfl, rfl⟩))
    (fun os started H enc _ => lifted os started H enc)
end Go.Proofs.Ytjhopjokllkipaa.WOrd
namespace Go.Proofs.Ytjhopjokllkipaa
theorem watchOrders_holds : Rows.WatchOrdersSaid := WOrd.proved
#print axioms watchOrders_holds
end Go.Proofs.Ytjhopjokllkipaa
