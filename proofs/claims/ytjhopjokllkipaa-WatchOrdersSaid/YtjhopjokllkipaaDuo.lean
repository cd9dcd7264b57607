/- Two engines of a law's own: what their calls leave. One has the other's clauses and decisions. -/
import Derived.Test.YtjhopjokllkipaaELive
import Derived.Test.YtjhopjokllkipaaEngC
namespace Go.Proofs.Ytjhopjokllkipaa
open Go.RowKit LitM TrailM EngM

section
variable {B b b1 b2 : Nat} {w0 w : World} {S S1 S2 : Eng}
/-- What an Add makes of an engine. -/
def AddE (S : Eng) (xs : List Int) (S' : Eng) : Prop := (fitsB S.n xs = false ∧ S' = S) ∨ (fitsB S.n xs = true ∧ ∃ ys, IsClean xs ys ∧ S' = addF S ys (bothB xs))
theorem Duo.one (h : Duo B w0 w b1 S1 b2 S2) : Solo B w0 w b1 S1 := by
  obtain ⟨q1, q2, h1, h2, i1, i2, hd, hb1, hb2, h0, hs⟩ := h
  exact ⟨q1, h1, i1, hb1, h0, hs⟩
theorem Duo.out (h : Duo B w0 w b1 S1 b2 S2) : Below B w0 w := h.one.out
theorem Duo.add (h : Duo B w0 w b1 S1 b2 S2) (hcn : S1.cs.length ≤ 20000) (A : Option Addr) (n c : Nat) (xs : List Int) (hr : Rd .i32 w w.heap.size A n xs) (h32 : In32 xs) (hm : n ≤ 10000) :
    Calls Try.prog 9 #[.pointer (some ⟨b1, 0, none⟩), .slice A n c] w fun e w' => ∃ x y S', e = .returned (.tuple #[.int .i64 x, .int .i64 y]) ∧ AddE S1 xs S' ∧ Duo B w0 w' b1 S' b2 S2 := by
  obtain ⟨q1, q2, h1, h2, i1, i2, hd, hb1, hb2, h0, hs⟩ := h
  have hsm := i1.small
  have hl := hr.len
  refine (add_any h1 hsm.n (by omega) (by have := hsm.ln; omega) A n c xs hr h32 hm).mono fun e w' ht => ?_
  rcases ht with ⟨a, e1, q', hE', hX⟩ | ⟨a, e1, q', ys, hc, hE', hX⟩
  · exact ⟨_, _, S1, e1, .inl ⟨a, rfl⟩, Duo.to h2 i2 hd hb1 hb2 h0 hs hE' i1 hX⟩
  · exact ⟨_, _, _, e1, .inr ⟨a, ys, hc, rfl⟩, Duo.to h2 i2 hd hb1 hb2 h0 hs hE' (inv_add i1 a hc (by have := clean_le hc; omega)) hX⟩
theorem Duo.decide (h : Duo B w0 w b1 S1 b2 S2) (l : Int) (l0 : -2147483648 ≤ l) (l1 : l ≤ 2147483647) :
    Calls Try.prog 14 #[.pointer (some ⟨b1, 0, none⟩), .int .i32 l] w fun e w' => e = .returned (.int .i64 (eErr S1 l)) ∧ Duo B w0 w' b1 (decE S1 l) b2 S2 := by
  obtain ⟨q1, q2, h1, h2, i1, i2, hd, hb1, hb2, h0, hs⟩ := h
  refine (edecide_any h1 rfl i1.small.n l l0 l1).mono fun e w' ht => ⟨ht.1, ?_⟩
  unfold decE
  rcases ht.2 with ⟨a, rfl⟩ | ⟨a, q', hE', hX⟩
  · rw [if_neg a]; exact ⟨q1, q2, h1, h2, i1, i2, hd, hb1, hb2, h0, hs⟩
  · rw [if_pos a]
    have hl : (decideF S1 l).le.length = S1.le.length + 1 := by simp [decideF]
    exact Duo.to h2 i2 hd hb1 hb2 h0 hs (by rw [hl]; exact hE') (inv_decide i1 a) hX
theorem Duo.prop (h : Duo B w0 w b1 S1 b2 S2) (hcn : S1.cs.length ≤ 20000) :
    Calls Try.prog 10 #[.pointer (some ⟨b1, 0, none⟩)] w fun e w' => e = .returned (.int .i64 (propF S1).2) ∧ Duo B w0 w' b1 (propF S1).1 b2 S2 := by
  obtain ⟨q1, q2, h1, h2, i1, i2, hd, hb1, hb2, h0, hs⟩ := h
  refine (prop_any h1 i1 rfl hcn).mono fun e w' ⟨he, q', hE', hX⟩ => ⟨he, Duo.to h2 i2 hd hb1 hb2 h0 hs (by rw [prop_len i1]; exact hE') (inv_prop i1).1 hX⟩
end

/-- G has F's clauses. -/
def Subc (F G : Eng) : Prop := ∀ i, i < F.cs.length → (clA F.cs i).pr = true → ∃ k, k < G.cs.length ∧ (clA G.cs k).pr = true ∧ (clA G.cs k).ls = (clA F.cs i).ls
theorem Subc.refl (F : Eng) : Subc F F := fun i hi hp => ⟨i, hi, hp, rfl⟩
theorem Subc.right {F G : Eng} (h : Subc F G) (ys : List Int) (t : Bool) : Subc F (addF G ys t) := fun i hi hp => by
  obtain ⟨k, k1, k2, k3⟩ := h i hi hp
  refine ⟨k, by simp [addF]; omega, ?_, ?_⟩
  · simp only [addF]; rw [clA_snoc, if_pos k1]; exact k2
  · simp only [addF]; rw [clA_snoc, if_pos k1]; exact k3
theorem Subc.both {F G : Eng} (h : Subc F G) (ys : List Int) (s t : Bool) : Subc (addF F ys s) (addF G ys t) := fun i hi hp => by
  by_cases e : i < F.cs.length
  · have e1 : clA (addF F ys s).cs i = clA F.cs i := by simp only [addF]; rw [clA_snoc, if_pos e]
    rw [e1] at hp ⊢
    exact h.right ys t i e hp
  · have hi' : i = F.cs.length := by simp [addF] at hi; omega
    refine ⟨G.cs.length, by simp [addF], ?_, ?_⟩
    · simp only [addF]; rw [clA_snoc, if_neg (by omega), if_pos rfl]
    · simp only [addF]; rw [clA_snoc, if_neg (by omega), if_pos rfl, clA_snoc, if_neg (by omega), if_pos hi']
/-- Few and all: n variables, at most k clauses, no entries. -/
structure Rel1 (N k : Nat) (F G : Eng) : Prop where
  nf : F.n = N
  ng : G.n = N
  lf : F.L = []
  cf : F.cs.length ≤ k
  cg : G.cs.length ≤ k
  sub : Subc F G
theorem Rel1.new (N : Nat) : Rel1 N 0 (newE N) (newE N) := ⟨rfl, rfl, rfl, by simp [newE], by simp [newE], Subc.refl _⟩
theorem Rel1.all {N k : Nat} {F G G' : Eng} {xs : List Int} (h : Rel1 N k F G) (a : AddE G xs G') : Rel1 N (k + 1) F G' := by
  rcases a with ⟨_, rfl⟩ | ⟨_, ys, _, rfl⟩
  · exact ⟨h.nf, h.ng, h.lf, by have := h.cf; omega, by have := h.cg; omega, h.sub⟩
  · exact ⟨h.nf, h.ng, h.lf, by have := h.cf; omega, by have := h.cg; simp [addF]; omega, h.sub.right _ _⟩
theorem Rel1.both {N k : Nat} {F F' G G' : Eng} {xs : List Int} (h : Rel1 N k F G) (a : AddE F xs F') (b : AddE G xs G') : Rel1 N (k + 1) F' G' := by
  rcases a with ⟨x, rfl⟩ | ⟨x, ys, hy, rfl⟩
  · rcases b with ⟨z, rfl⟩ | ⟨z, _⟩
    · exact ⟨h.nf, h.ng, h.lf, by have := h.cf; omega, by have := h.cg; omega, h.sub⟩
    · rw [h.nf] at x; rw [h.ng] at z; rw [x] at z; cases z
  · rcases b with ⟨z, _⟩ | ⟨z, zs, hz, rfl⟩
    · rw [h.nf] at x; rw [h.ng] at z; rw [x] at z; cases z
    · rw [← hy.unique hz]
      exact ⟨h.nf, h.ng, h.lf, by have := h.cf; simp [addF]; omega, by have := h.cg; simp [addF]; omega, h.sub.both _ _ _⟩
/-- The same, and all has few's entries. -/
structure Rel2 (N k : Nat) (F G : Eng) : Prop where
  nf : F.n = N
  ng : G.n = N
  cf : F.cs.length ≤ k
  cg : G.cs.length ≤ k
  sub : Subc F G
  tr : ∀ x ∈ F.L, Tr G.L x.l
theorem Rel1.two {N k : Nat} {F G : Eng} (h : Rel1 N k F G) : Rel2 N k F G := ⟨h.nf, h.ng, h.cf, h.cg, h.sub, fun x hx => by rw [h.lf] at hx; cases hx⟩
theorem eErr_zero {S : Eng} {l : Int} : eErr S l = 0 ↔ errZ S.n S.L l = 0 := by
  unfold eErr
  constructor
  · intro h
    split at h
    · omega
    · exact h
  · intro h
    rw [h]; rfl
theorem Rel2.skip {N k : Nat} {F G : Eng} {l : Int} (h : Rel2 N k F G) (e : eErr G l ≠ 0) : Rel2 N k F (decE G l) := by
  unfold decE; rw [if_neg (fun q => e (eErr_zero.2 q))]; exact h
theorem Rel2.all {N k : Nat} {F G : Eng} (l : Int) (h : Rel2 N k F G) : Rel2 N k F (decE G l) := by
  unfold decE
  split
  · exact ⟨h.nf, h.ng, h.cf, h.cg, h.sub, fun x hx => by
      obtain ⟨z, hz, e⟩ := h.tr x hx
      exact ⟨z, List.mem_append_left _ hz, e⟩⟩
  · exact h
theorem Rel2.few {N k : Nat} {F G : Eng} {l : Int} (h : Rel2 N k F G) (e : eErr G l = 0) : eErr F l = 0 := by
  have e0 := eErr_zero.1 e
  rw [eErr_zero]
  rcases errZ_cases G.n G.L l with ⟨_, q⟩ | ⟨_, q⟩ | ⟨h1, v, hv, v1, v2, hf, _⟩
  · omega
  · omega
  · unfold errZ
    rw [if_neg (by rw [h1, h.nf, hv]; have := h.ng; simp; omega), if_neg]
    intro hs
    obtain ⟨x, hx⟩ := Option.isSome_iff_exists.1 hs
    obtain ⟨z, hz, ez⟩ := h.tr x (List.mem_of_find?_eq_some hx)
    have hxv := List.find?_some hx
    rw [findE, List.find?_eq_none] at hf
    have := hf z hz
    rw [ez] at this
    exact this hxv
theorem Rel2.both {N k : Nat} {F G : Eng} {l : Int} (h : Rel2 N k F G) (e : eErr G l = 0) : Rel2 N k (decE F l) (decE G l) := by
  have hF := h.few e
  have h' := h.all l
  unfold decE at h' ⊢
  rw [if_pos (eErr_zero.1 e)] at h' ⊢
  rw [if_pos (eErr_zero.1 hF)]
  exact ⟨h'.nf, h'.ng, h'.cf, h'.cg, h'.sub, fun x hx => by
    rcases List.mem_append.1 hx with q | q
    · exact h'.tr x q
    · rw [List.mem_singleton] at q
      subst q
      exact ⟨⟨l, G.le.length + 1, -1⟩, by simp [decideF], rfl⟩⟩
/-- What the two Propagates answer. -/
theorem Rel2.prop {N k : Nat} {F G : Eng} (h : Rel2 N k F G) (hF : Inv F) (hG : Inv G) (hr : (propF G).2 < 0) :
    (propF F).2 = -1 ∧ ∀ v : Int, 1 ≤ v → v ≤ 100000 → valZ (propF F).1.L v ≠ 0 → valZ (propF G).1.L v = valZ (propF F).1.L v := by
  have hm : (propF G).2 = -1 := by
    rcases (inv_prop hG).2.2 with ⟨a, _⟩ | ⟨id, a, _⟩
    · exact a
    · omega
  obtain ⟨a, t⟩ := prop_sub hF hG h.sub h.tr hm
  exact ⟨a, fun v v0 v1 hv => val_same (inv_prop hF).1.pre (inv_prop hG).1.pre ((one_iff v).2 (by omega)) t hv⟩
end Go.Proofs.Ytjhopjokllkipaa
