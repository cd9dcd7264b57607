/- Package parse: Expr; what is thrown is caught. -/
import Derived.Test.YtmkhfcdjgdofnaaDoorParI
import Derived.Test.YtmkhfcdjgdofnaaDoorParJ
import Derived.Defers
import Derived.Deep.CutBlock
namespace Go.Proofs.YtmkhfcdjgdofnaaDoor
open Go.RowKit TreM WrdM ParM

theorem fault_of_any (x : Value) (w : World) : (Instr.typeAssert (.iface 27 x) 20 27 true).run Tryd.prog w = .ok (.tuple #[x, .bool true]) w := by kernel_rfl
set_option maxHeartbeats 1600000 in
set_option maxRecDepth 100000 in
theorem pcaughtE (q : Nat) (l c : Int) (older : List PanicEntry) (w : World) (a b d : Value) (hq : w.heap[q]? = some (.cells #[a, b, d] 27 (0, 0))) :
    CallsD Tryd.prog 22 #[.pointer (some ⟨q, 0, none⟩)] (.panicking ({ v := .iface 27 (.agg #[.int .i64 151, .int .i64 l, .int .i64 c]), recovered := false } :: older)) w fun e u' w' =>
      e = .returned (.tuple #[]) ∧ u' = .panicking ({ v := .iface 27 (.agg #[.int .i64 151, .int .i64 l, .int .i64 c]), recovered := true } :: older) ∧ w'.heap[q]? = some (.cells #[.int .i64 151, .int .i64 l, .int .i64 c] 27 (0, 0)) ∧ Kg q w w' := by
  have hlt := lt_of_heap hq
  obtain ⟨s0, s1, s2⟩ := wcel3 hq
  have uf := Lib.frozen_of_heap hq
  have hta := fault_of_any (.agg #[.int .i64 151, .int .i64 l, .int .i64 c])
  have HQ := Lib.hid hq
  clear hq
  refine callsD_of_wpS Tryd.func22 rfl fun c₀ cs hu => ?_
  apply wpS_seq
  apply wpS_region
  simp [wpOpsS, go_sem, recoverD, hu, Tryd.ntmps22, Exit.thenS]
  refine wpS_of_wp ?_
  go_wp2
  obtain ⟨w8, hw8⟩ : ∃ w8, w8 = (((w.setCell ⟨q, 0, none⟩ (.int .i64 151)).setCell ⟨q, 1, none⟩ (.int .i64 l)).setCell ⟨q, 2, none⟩ (.int .i64 c)) := ⟨_, rfl⟩
  rw [← hw8]
  have hn8 : w8.heap[q]? = some (.cells #[.int .i64 151, .int .i64 l, .int .i64 c] 27 (0, 0)) := by rw [hw8]; exact three_set HQ.out _ _ _
  have hk8 : Kg q w w8 := by rw [hw8]; exact (kg_two 0 1 _ _).trans' (kg_one 2 _)
  obtain ⟨w9, hw9⟩ : ∃ w9, w9 = w8.alloc (.cells #[.int .i64 151, .int .i64 l, .int .i64 c] 27) := ⟨_, rfl⟩
  rw [← hw9]
  have hb9 : Below w8.heap.size w8 w9 := by rw [hw9]; exact below_alloc _ _
  have h1 : w9.heap[q]? = some (.cells #[.int .i64 151, .int .i64 l, .int .i64 c] 27 (0, 0)) := (hb9.block q (lt_of_heap hn8)).trans hn8
  have h2 : Kg q w w9 := hk8.trans' (Kg.of_below hb9)
  simp [bodyPostS, results, Tryd.results22]
  exact ⟨h1, h2⟩
theorem pidleE (q : Nat) (w : World) :
    CallsD Tryd.prog 22 #[.pointer (some ⟨q, 0, none⟩)] .returning w fun e u' w' => e = .returned (.tuple #[]) ∧ u' = .returning ∧ w' = w := by
  refine callsD_of_wpS Tryd.func22 rfl fun c₀ cs hu => ?_
  apply wpS_seq
  apply wpS_region
  simp [wpOpsS, go_sem, recoverD, hu, Tryd.ntmps22, Exit.thenS]
  refine wpS_of_wp ?_
  go_wp2
  cases c₀
  simp_all [bodyPostS, results, Tryd.results22]

/-- What Expr answers. -/
def AnsE (a : Ans Ex) (w : World) (e : Ending) (w' : World) : Prop :=
  match a with
  | .bad er l c => e = .returned (.tuple #[.agg z6, .agg #[.int .i64 er, .int .i64 l, .int .i64 c]]) ∧ Below w.heap.size w w'
  | .ok X => ∃ v, e = .returned (.tuple #[v, .agg #[.int .i64 0, .int .i64 0, .int .i64 0]]) ∧ ExD (fun k => w.heap.size ≤ k) w' X v ∧ Below w.heap.size w w'
theorem go_err : ∀ (cs : List UInt8) (k : Nat) (r : Bool) (L C e l c : Int), go k r L C cs = .bad e l c → e ≠ 0
  | [], k, r, L, C, e, l, c, h => by
    have hg : go k r L C [] = .ok [⟨5, [], 0, L, C⟩] := by cases k <;> rfl
    rw [hg] at h; cases h
  | d :: cs, k + 1, r, L, C, e, l, c, h => by
    rw [go] at h
    exact go_err cs k r _ _ e l c h
  | d :: cs, 0, r, L, C, e, l, c, h => by
    rw [go] at h
    split at h
    · exact go_err cs 0 false _ _ e l c h
    · split at h
      · exact go_err cs 0 true _ _ e l c h
      · split at h
        · exact go_err cs 0 false _ _ e l c h
        · split at h
          · cases hg : go ((wordL (d :: cs)).text.length - 1) false L (C + 1) cs with
            | bad e2 l2 c2 =>
              rw [hg] at h
              injection h with h1 h2 h3
              rw [← h1]; exact go_err cs _ false _ _ e2 l2 c2 hg
            | ok us => rw [hg] at h; cases h
          · rename_i he
            injection h with h1 h2 h3
            rw [← h1]; simpa using he
theorem cut_err {s : List UInt8} {e l c : Int} (h : cutL s = .bad e l c) : e ≠ 0 := by
  unfold cutL at h
  split at h
  · injection h with h1 h2 h3; omega
  · exact go_err s 0 false 1 1 e l c h

theorem ptkC_at : ∀ (ts : List Tok) (i k : Nat) (t : Tok), ts[i]? = some t → k < 5 → (ts.flatMap tokC)[i * 5 + k]? = (tokC t)[k]?
  | [], i, k, t, h, _ => by simp at h
  | x :: xs, 0, k, t, h, hk => by
    have : x = t := by simpa using h
    subst this
    rw [List.flatMap_cons, Nat.zero_mul, Nat.zero_add, List.getElem?_append_left (by show k < 5; exact hk)]
  | x :: xs, i + 1, k, t, h, hk => by
    rw [List.flatMap_cons, List.getElem?_append_right (by show 5 ≤ _; omega), show (i + 1) * 5 + k - (tokC x).length = i * 5 + k from by show (i + 1) * 5 + k - 5 = _; omega]
    exact ptkC_at xs i k t (by simpa using h) hk
/-- A reader of its own, at a text's words. -/
theorem rdr_new {w wR : World} {ts : List Tok} {A : Option Addr} {cp : Nat} (he : EndsT ts) (hrow : SlV 71 5 w A ts.length cp (tkF ts)) (hb : Below w.heap.size w wR) (hn : wR.heap[w.heap.size]? = some (.cells #[.slice A ts.length cp, .int .i64 0] 69 (0, 0))) : Rdr wR w.heap.size ts 0 := by
  obtain ⟨t, r, rfl⟩ := ends_cons he
  rcases hrow with ⟨_, h, _⟩ | ⟨b, rfl, hr⟩
  · simp at h
  have hlt := hr.lt
  obtain ⟨cur, h1, h2, h3, h4, h5⟩ := hr
  refine ⟨_, cp, hn, h2, by unfold maxLen at h3; omega, ⟨b, 0, rfl, hlt, fun j u hj i v hv => ?_⟩, he⟩
  have hjl : j < (t :: r).length := by
    rcases Nat.lt_or_ge j (t :: r).length with h | h
    · exact h
    · rw [List.getElem?_eq_none h] at hj; cases hj
  have hi5 : i < 5 := by
    rcases Nat.lt_or_ge i 5 with h | h
    · exact h
    · rw [List.getElem?_eq_none (by show 5 ≤ i; exact h)] at hv; cases hv
  rw [show 0 + j * 5 + i = j * 5 + i by omega, hb.cell (p := ⟨b, j * 5 + i, none⟩) hlt, Lib.cell_of_heap h1, h5 (j * 5 + i) (by omega)]
  unfold tkF
  rw [List.getD_eq_getElem?_getD, ptkC_at _ j i u hj hi5, hv]
  rfl
set_option maxHeartbeats 3200000 in
set_option maxRecDepth 100000 in
theorem readE_any (s : List UInt8) (hs : s.length ≤ 9223372036854775807) (w : World) (hG : PrG w) :
    Calls Tryd.prog 12 #[.string ⟨s.toArray⟩, .func (.func 13) #[] #[]] w (AnsE (exprA s) w) := by
  have hmf : ∀ (fn : Fn) (first cap : Array Value) (w : World), (Instr.makeFunc fn first cap).run Tryd.prog w = .ok (.func fn first cap) w := fun _ _ _ _ => rfl
  obtain ⟨wa, hwa⟩ : ∃ wa, wa = (w.alloc (.cells z6 24)).alloc (.cells #[.int .i64 0, .int .i64 0, .int .i64 0] 27) := ⟨_, rfl⟩
  have hba : Below w.heap.size w wa := by rw [hwa]; exact (below_alloc w _).alloc (by simp) _
  have hza : wa.heap.size = w.heap.size + 2 := by rw [hwa]; simp
  have hne : wa.heap[w.heap.size]? = some (.cells z6 24 (0, 0)) := by rw [hwa, Lib.alloc_old _ _ _ (by simp)]; exact blk_new w _
  have hnf : wa.heap[w.heap.size + 1]? = some (.cells #[.int .i64 0, .int .i64 0, .int .i64 0] 27 (0, 0)) := by
    rw [hwa]
    have := blk_new (w.alloc (.cells z6 24)) (.cells #[.int .i64 0, .int .i64 0, .int .i64 0] 27)
    rwa [show (w.alloc (.cells z6 24)).heap.size = w.heap.size + 1 by simp] at this
  have hwn := hG.n
  have hGa : PrG wa := hG.below hba hwn
  have HCT := Lib.hid (cut_any s wa hGa.wd (show 1 < wa.heap.size by omega) hs)
  have HNE := Lib.hid hne
  have HNF := Lib.hid hnf
  have HBA := Lib.hid hba
  have HWA := Lib.hid hwa
  have HGA := Lib.hid hGa
  have HZA := Lib.hid hza
  have HAN1 : Hid (∀ e l c, cutL s = .bad e l c → exprA s = .bad e l c) := fun e l c h => by unfold exprA ansR; rw [h]
  have HAN2 : Hid (∀ ts l c, cutL s = .ok ts → (wholeR ts).bind endR = .bad l c → exprA s = .bad 151 l c) := fun ts l c h h2 => by unfold exprA ansR; rw [h]; dsimp only; rw [h2]
  have HAN3 : Hid (∀ ts x r, cutL s = .ok ts → (wholeR ts).bind endR = .ok x r → exprA s = .ok x) := fun ts x r h h2 => by unfold exprA ansR; rw [h]; dsimp only; rw [h2]
  have HCE : Hid (∀ e l c, cutL s = .bad e l c → e ≠ 0) := fun e l c h => cut_err h
  have HEN : Hid (∀ ts, cutL s = .ok ts → EndsT ts) := fun ts h => ends_cut h
  generalize exprA s = R at *
  generalize hcl : cutL s = O at *
  clear hwa hne hnf hba hGa hza hcl
  generalize (⟨s.toArray⟩ : ByteArray) = sb at *
  go_enter_defers Tryd.func12, Tryd.ntmps12
  go_upto_region 1 with (fail)
  have hwa := HWA.out
  unfold z6 at hwa
  rw [← hwa]
  clear hwa HWA
  go_wp2_with fail
  refine HCT.out.mono ?_
  intro e w1 hp
  clear HCT
  unfold CutTo at hp
  rcases O with ⟨er, L, C⟩ | ts
  · obtain ⟨rfl, hb1⟩ := hp
    have her := HCE.out er L C rfl
    have hz := HZA.out
    have hf1 := (hb1.block (w.heap.size + 1) (by omega)).trans HNF.out
    have he1 := (hb1.block w.heap.size (by omega)).trans HNE.out
    have uf := Lib.frozen_of_heap hf1
    obtain ⟨s0, s1, s2⟩ := wcel3 hf1
    have hq := three_set hf1 (.int .i64 er) (.int .i64 L) (.int .i64 C)
    obtain ⟨q0, q1, q2⟩ := wcel3 hq
    obtain ⟨w2, hw2⟩ : ∃ w2, w2 = (((w1.setCell ⟨w.heap.size + 1, 0, none⟩ (.int .i64 er)).setCell ⟨w.heap.size + 1, 1, none⟩ (.int .i64 L)).setCell ⟨w.heap.size + 1, 2, none⟩ (.int .i64 C)) := ⟨_, rfl⟩
    have hk2 : Kg (w.heap.size + 1) w1 w2 := by rw [hw2]; exact (kg_two 0 1 _ _).trans' (kg_one 2 _)
    have he2 := (hk2.block w.heap.size (by have := hb1.size; omega) (by omega)).trans he1
    rw [← hw2] at hq q0 q1 q2
    have HQ := Lib.hid hq
    have HE2 := Lib.hid he2
    have HW2 := Lib.hid hw2
    have HB2 : Hid (Below w.heap.size w w2) := (HBA.out.trans (hb1.mono HBA.out.size)).trans (hk2.low (by have := hb1.size; omega) |>.mono (by omega))
    have HRF : Hid (R = .bad er L C) := HAN1.out er L C rfl
    have hne0 : (er == 0) = false := by rw [beq_eq_false_iff_ne]; exact her
    clear hq he2 hw2 hf1 he1 hb1 her hz hk2
    go_upto_region 2 with (fail)
    have hw2 := HW2.out
    rw [← hw2]
    clear hw2 HW2 s0 s1 s2 uf
    go_wp2_with fail
    obtain ⟨x0, x1, x2, x3, x4, x5⟩ := cells6 HE2.out
    have ue := Lib.frozen_of_heap HE2.out
    have uf := Lib.frozen_of_heap HQ.out
    go_region
    all_goals go_wp2_with fail
    all_goals
      obtain ⟨wA, hwA⟩ : ∃ wA, wA = ((((((w2.setCell ⟨w.heap.size, 0, none⟩ (.int .i64 0)).setCell ⟨w.heap.size, 1, none⟩ (.int .i64 0)).setCell ⟨w.heap.size, 2, none⟩ (.string ⟨#[]⟩)).setCell ⟨w.heap.size, 3, none⟩ (.slice none 0 0)).setCell ⟨w.heap.size, 4, none⟩ (.int .i64 0)).setCell ⟨w.heap.size, 5, none⟩ (.int .i64 0)) := ⟨_, rfl⟩
      have hkA : Kg w.heap.size w2 wA := by rw [hwA]; exact kf_six _ _ _ _ _ _ _ _
      have hnA : wA.heap[w.heap.size]? = some (.cells z6 24 (0, 0)) := by rw [hwA]; exact psix_set HE2.out _ _ _ _ _ _
      rw [← hwA]
      have hlt2 := lt_of_heap HQ.out
      have hfA := (hkA.block (w.heap.size + 1) hlt2 (by omega)).trans HQ.out
      obtain ⟨wB, hwB⟩ : ∃ wB, wB = (((wA.setCell ⟨w.heap.size + 1, 0, none⟩ (.int .i64 er)).setCell ⟨w.heap.size + 1, 1, none⟩ (.int .i64 L)).setCell ⟨w.heap.size + 1, 2, none⟩ (.int .i64 C)) := ⟨_, rfl⟩
      have hkB : Kg (w.heap.size + 1) wA wB := by rw [hwB]; exact (kg_two 0 1 _ _).trans' (kg_one 2 _)
      have hnB : wB.heap[w.heap.size + 1]? = some (.cells #[.int .i64 er, .int .i64 L, .int .i64 C] 27 (0, 0)) := by rw [hwB]; exact three_set hfA _ _ _
      rw [← hwB]
      have heB := (hkB.block w.heap.size (by have := hkA.size; omega) (by omega)).trans hnA
      have hBB : Below w.heap.size w wB := HB2.out.trans (((hkA.low (by omega)).mono (Nat.le_refl _)).trans ((hkB.low (by have := hkA.size; omega)).mono (by omega)))
      have hBD : Below w.heap.size w wB.drew := hBB.drew
      have heD : wB.drew.heap[w.heap.size]? = some (.cells z6 24 (0, 0)) := heB
      have hnD : wB.drew.heap[w.heap.size + 1]? = some (.cells #[.int .i64 er, .int .i64 L, .int .i64 C] 27 (0, 0)) := hnB
      generalize wB.drew = wC at *
      obtain ⟨p0, p1, p2, p3, p4, p5⟩ := cells6 heD
      obtain ⟨f0, f1, f2⟩ := wcel3 hnD
      refine ⟨.tuple #[.agg #[.int .i64 0, .int .i64 0, .string ⟨#[]⟩, .slice none 0 0, .int .i64 0, .int .i64 0], .agg #[.int .i64 er, .int .i64 L, .int .i64 C]], ?_, ?_⟩
      · clear hwA hkA hnA hlt2 hfA hwB hkB hnB heB hBB hBD heD hnD hmf HNE HNF x0 x1 x2 x3 x4 x5 ue uf q0 q1 q2
        simp [results, Tryd.results12, go_sem, p0, p1, p2, p3, p4, p5, f0, f1, f2]
      · show AnsE _ _ _ _
        rw [HRF.out]
        exact ⟨rfl, hBD⟩
  · obtain ⟨A, cp, rfl, hrow, hlo, hb1⟩ := hp
    have hends := HEN.out ts rfl
    have hz := HZA.out
    have hf1 := (hb1.block (w.heap.size + 1) (by omega)).trans HNF.out
    have he1 := (hb1.block w.heap.size (by omega)).trans HNE.out
    have uf := Lib.frozen_of_heap hf1
    obtain ⟨s0, s1, s2⟩ := wcel3 hf1
    have hq := three_set hf1 (.int .i64 0) (.int .i64 0) (.int .i64 0)
    obtain ⟨w2, hw2⟩ : ∃ w2, w2 = (((w1.setCell ⟨w.heap.size + 1, 0, none⟩ (.int .i64 0)).setCell ⟨w.heap.size + 1, 1, none⟩ (.int .i64 0)).setCell ⟨w.heap.size + 1, 2, none⟩ (.int .i64 0)) := ⟨_, rfl⟩
    have hk2 : Kg (w.heap.size + 1) w1 w2 := by rw [hw2]; exact (kg_two 0 1 _ _).trans' (kg_one 2 _)
    have he2 := (hk2.block w.heap.size (by have := hb1.size; omega) (by omega)).trans he1
    rw [← hw2] at hq
    obtain ⟨q0, q1, q2⟩ := wcel3 hq
    have hB2 : Below w.heap.size w w2 := (HBA.out.trans (hb1.mono HBA.out.size)).trans (hk2.low (by have := hb1.size; omega) |>.mono (by omega))
    have hrow2 : SlV 71 5 w2 A ts.length cp (tkF ts) := hrow.same fun j hj => hk2.block j (hrow.lt j hj) (by have := hlo j hj; omega)
    obtain ⟨wR, hwR⟩ : ∃ wR, wR = w2.alloc (.cells #[.slice A ts.length cp, .int .i64 0] 69) := ⟨_, rfl⟩
    have hbR : Below w2.heap.size w2 wR := by rw [hwR]; exact below_alloc _ _
    have hnR : wR.heap[w2.heap.size]? = some (.cells #[.slice A ts.length cp, .int .i64 0] 69 (0, 0)) := by rw [hwR]; exact blk_new _ _
    have hzR : wR.heap.size = w2.heap.size + 1 := by rw [hwR]; simp
    have hgl : w.heap.size + 1 < w2.heap.size := lt_of_heap hq
    have hrd : Rdr wR w2.heap.size ts 0 := rdr_new hends hrow2 hbR hnR
    have HBR : Hid (Below w.heap.size w wR) := hB2.trans (hbR.mono hB2.size)
    have HFR : Hid (wR.heap[w.heap.size + 1]? = some (.cells #[.int .i64 0, .int .i64 0, .int .i64 0] 27 (0, 0))) := (hbR.block _ (by omega)).trans hq
    have HER : Hid (wR.heap[w.heap.size]? = some (.cells z6 24 (0, 0))) := (hbR.block _ (by omega)).trans he2
    have HWH := Lib.hid (whole_any w2.heap.size ts wR (hG.below HBR.out hwn) (by omega) hrd)
    have HW2 := Lib.hid hw2
    have HWR := Lib.hid hwR
    have hgw : w2.heap.size < wR.heap.size := by omega
    obtain ⟨g, hgg⟩ : ∃ g, g = w2.heap.size := ⟨_, rfl⟩
    have HGG := Lib.hid hgg
    rw [← hgg] at HWH hgl hgw
    have HGR := Lib.hid hgw
    clear hgw
    clear hq he2 hw2 hf1 he1 hb1 hz hk2 hrow hrow2 hlo hB2 hbR hnR hzR hwR hrd hgg hends
    go_upto_region 2 with (fail)
    have hw2 := HW2.out
    rw [← hw2]
    clear hw2 HW2 s0 s1 s2 uf
    go_upto_region 6 with (fail)
    have hwR := HWR.out
    rw [← hwR]
    have hgg := HGG.out
    rw [← hgg]
    clear hwR HWR hgg
    go_wp2_with fail
    refine HWH.out.mono ?_
    intro e w3 hp
    clear HWH q0 q1 q2
    rcases hWR : wholeR ts with ⟨l, c⟩ | ⟨x, r⟩
    · rw [hWR] at hp
      obtain ⟨rfl, hbq⟩ := hp
      have HRF : Hid (R = .bad 151 l c) := HAN2.out ts l c rfl (by rw [hWR]; rfl)
      have hfq := (hbq.block (w.heap.size + 1) (by omega)).trans HFR.out
      have heq := (hbq.block w.heap.size (by omega)).trans HER.out
      refine leaves_cons (f := 22) (args := #[.pointer (some ⟨w.heap.size + 1, 0, none⟩)]) (by simp) (by simp [go_sem]) ?_
      refine (pcaughtE (w.heap.size + 1) l c [] _ _ _ _ hfq).mono ?_
      rintro e u' wz ⟨rfl, rfl, hfz, hkz⟩
      have hez := (hkz.block w.heap.size (by have := lt_of_heap heq; omega) (by omega)).trans heq
      have hbz : Below w.heap.size w wz := HBR.out.trans ((hbq.mono (by omega)).trans ((hkz.low (lt_of_heap hfq)).mono (by omega)))
      obtain ⟨p0, p1, p2, p3, p4, p5⟩ := cells6 hez
      obtain ⟨f0, f1, f2⟩ := wcel3 hfz
      refine ⟨.tuple #[.agg #[.int .i64 0, .int .i64 0, .string ⟨#[]⟩, .slice none 0 0, .int .i64 0, .int .i64 0], .agg #[.int .i64 151, .int .i64 l, .int .i64 c]], ?_, ?_⟩
      · clear hfq heq hfz hkz hez hbz hmf HNE HNF
        simp [results, Tryd.results12, go_sem, p0, p1, p2, p3, p4, p5, f0, f1, f2]
      · show AnsE _ _ _ _
        rw [HRF.out]
        exact ⟨rfl, hbz⟩
    rw [hWR] at hp
    obtain ⟨⟨v, rfl, hv⟩, hr3, hk3⟩ := hp
    obtain ⟨vo, vn, vs, va, vm, vk, vl, vc, rfl⟩ := exv_form hv.val
    have hgr := HGR.out
    have hbq3 := hk3.low hgr
    obtain ⟨w4, hw4⟩ : ∃ w4, w4 = w3.alloc (.cells #[.int .i64 vo, .int .i64 vn, .string vs, .slice va vm vk, .int .i64 vl, .int .i64 vc] 24) := ⟨_, rfl⟩
    have hb4 : Below w3.heap.size w3 w4 := by rw [hw4]; exact below_alloc w3 _
    have hn4 : w4.heap[w3.heap.size]? = some (.cells #[.int .i64 vo, .int .i64 vn, .string vs, .slice va vm vk, .int .i64 vl, .int .i64 vc] 24 (0, 0)) := by rw [hw4]; exact blk_new w3 _
    have hz4 : w4.heap.size = w3.heap.size + 1 := by rw [hw4]; simp
    have hg3 : g < w3.heap.size := hr3.lt
    have HEND := Lib.hid (rend_any x r w4 (hr3.below hb4))
    have hbq4 : Below g wR w4 := hbq3.trans (hb4.mono (by omega))
    have HV4 := Lib.hid (hv.below hb4)
    have HN4 := Lib.hid hn4
    have HB4 := Lib.hid hbq4
    have HW4 := Lib.hid hw4
    have HWH2 := Lib.hid hWR
    have HZ4 := Lib.hid hz4
    have hR3 : wR.heap.size ≤ w3.heap.size := hk3.size
    clear hv hr3 hk3 hbq3 hb4 hn4 hbq4 hw4 hWR hz4
    go_upto_region 7 with (fail)
    have hw4 := HW4.out
    rw [← hw4]
    clear hw4 HW4
    go_wp2_with fail
    refine HEND.out.mono ?_
    intro e w5 hp
    clear HEND
    rcases hEE : endR x r with ⟨l, c⟩ | ⟨x', r'⟩
    · rw [hEE] at hp
      obtain ⟨rfl, hb5⟩ := hp
      have HRF : Hid (R = .bad 151 l c) := HAN2.out ts l c rfl (by rw [HWH2.out]; exact hEE)
      have hbq : Below g wR w5 := HB4.out.trans hb5
      have hfq := (hbq.block (w.heap.size + 1) (by omega)).trans HFR.out
      have heq := (hbq.block w.heap.size (by omega)).trans HER.out
      refine leaves_cons (f := 22) (args := #[.pointer (some ⟨w.heap.size + 1, 0, none⟩)]) (by simp) (by simp [go_sem]) ?_
      refine (pcaughtE (w.heap.size + 1) l c [] _ _ _ _ hfq).mono ?_
      rintro e u' wz ⟨rfl, rfl, hfz, hkz⟩
      have hez := (hkz.block w.heap.size (by have := lt_of_heap heq; omega) (by omega)).trans heq
      have hbz : Below w.heap.size w wz := HBR.out.trans ((hbq.mono (by omega)).trans ((hkz.low (lt_of_heap hfq)).mono (by omega)))
      obtain ⟨p0, p1, p2, p3, p4, p5⟩ := cells6 hez
      obtain ⟨f0, f1, f2⟩ := wcel3 hfz
      refine ⟨.tuple #[.agg #[.int .i64 0, .int .i64 0, .string ⟨#[]⟩, .slice none 0 0, .int .i64 0, .int .i64 0], .agg #[.int .i64 151, .int .i64 l, .int .i64 c]], ?_, ?_⟩
      · clear hfq heq hfz hkz hez hbz hmf HNE HNF
        simp [results, Tryd.results12, go_sem, p0, p1, p2, p3, p4, p5, f0, f1, f2]
      · show AnsE _ _ _ _
        rw [HRF.out]
        exact ⟨rfl, hbz⟩
    have hxx : x' = x := by
      unfold endR at hEE
      split at hEE
      · cases hEE
      · split at hEE
        · injection hEE with h1 h2; exact h1.symm
        · cases hEE
    subst hxx
    rw [hEE] at hp
    obtain ⟨he, hr5, hk5⟩ := hp
    have he : e = .returned (.tuple #[]) := he
    subst he
    have HRF : Hid (R = .ok x') := HAN3.out ts x' r' rfl (by rw [HWH2.out]; exact hEE)
    have hz4 := HZ4.out
    have hb45 := hk5.low (show g < w4.heap.size by omega)
    have hfq := (hb45.block (w.heap.size + 1) (by omega)).trans ((HB4.out.block (w.heap.size + 1) (by omega)).trans HFR.out)
    have heq := (hb45.block w.heap.size (by omega)).trans ((HB4.out.block w.heap.size (by omega)).trans HER.out)
    have hy5 := (hk5.block w3.heap.size (by omega) (by omega)).trans HN4.out
    have hv5 : ExD (fun j => wR.heap.size ≤ j) w5 x' (.agg #[.int .i64 vo, .int .i64 vn, .string vs, .slice va vm vk, .int .i64 vl, .int .i64 vc]) := HV4.out.keep (fun j hj hl => hk5.block j hl (by omega)) hk5.size
    have ue := Lib.frozen_of_heap heq
    have uf := Lib.frozen_of_heap hfq
    obtain ⟨y0, y1, y2, y3, y4, y5⟩ := cells6 hy5
    obtain ⟨x0, x1, x2, x3, x4, x5⟩ := cells6 heq
    obtain ⟨s0, s1, s2⟩ := wcel3 hfq
    have HEQ := Lib.hid heq
    have HFQ := Lib.hid hfq
    have HV5 := Lib.hid hv5
    have HB5 : Hid (Below w.heap.size w w5) := HBR.out.trans ((HB4.out.trans hb45).mono (by omega))
    have hlt5 : w.heap.size + 1 < w5.heap.size := lt_of_heap hfq
    clear hEE hr5 hk5 hz4 hb45 hfq heq hy5 hv5
    go_wp2_with fail
    obtain ⟨wA, hwA⟩ : ∃ wA, wA = ((((((w5.setCell ⟨w.heap.size, 0, none⟩ (.int .i64 vo)).setCell ⟨w.heap.size, 1, none⟩ (.int .i64 vn)).setCell ⟨w.heap.size, 2, none⟩ (.string vs)).setCell ⟨w.heap.size, 3, none⟩ (.slice va vm vk)).setCell ⟨w.heap.size, 4, none⟩ (.int .i64 vl)).setCell ⟨w.heap.size, 5, none⟩ (.int .i64 vc)) := ⟨_, rfl⟩
    have hkA : Kg w.heap.size w5 wA := by rw [hwA]; exact kf_six _ _ _ _ _ _ _ _
    have hnA : wA.heap[w.heap.size]? = some (.cells #[.int .i64 vo, .int .i64 vn, .string vs, .slice va vm vk, .int .i64 vl, .int .i64 vc] 24 (0, 0)) := by rw [hwA]; exact psix_set HEQ.out _ _ _ _ _ _
    rw [← hwA]
    have hfA := (hkA.block (w.heap.size + 1) hlt5 (by omega)).trans HFQ.out
    obtain ⟨wB, hwB⟩ : ∃ wB, wB = (((wA.setCell ⟨w.heap.size + 1, 0, none⟩ (.int .i64 0)).setCell ⟨w.heap.size + 1, 1, none⟩ (.int .i64 0)).setCell ⟨w.heap.size + 1, 2, none⟩ (.int .i64 0)) := ⟨_, rfl⟩
    have hkB : Kg (w.heap.size + 1) wA wB := by rw [hwB]; exact (kg_two 0 1 _ _).trans' (kg_one 2 _)
    have hnB : wB.heap[w.heap.size + 1]? = some (.cells #[.int .i64 0, .int .i64 0, .int .i64 0] 27 (0, 0)) := by rw [hwB]; exact three_set hfA _ _ _
    rw [← hwB]
    have hszA := hkA.size
    have heB := (hkB.block w.heap.size (by omega) (by omega)).trans hnA
    have hBB : Below w.heap.size w wB := HB5.out.trans (((hkA.low (by omega)).mono (Nat.le_refl _)).trans ((hkB.low (by omega)).mono (by omega)))
    have hRB := HBR.out.size
    have hvB : ExD (fun j => w.heap.size ≤ j) wB x' (.agg #[.int .i64 vo, .int .i64 vn, .string vs, .slice va vm vk, .int .i64 vl, .int .i64 vc]) :=
      ((HV5.out.keep (fun j hj hl => hkA.block j hl (by omega)) hkA.size).keep (fun j hj hl => hkB.block j hl (by omega)) hkB.size).mono fun j hj => by omega
    refine leaves_cons (f := 22) (args := #[.pointer (some ⟨w.heap.size + 1, 0, none⟩)]) (by simp) (by simp [go_sem]) ?_
    refine (pidleE (w.heap.size + 1) _).mono ?_
    rintro e u' wz ⟨rfl, rfl, rfl⟩
    obtain ⟨p0, p1, p2, p3, p4, p5⟩ := cells6 heB
    obtain ⟨f0, f1, f2⟩ := wcel3 hnB
    refine ⟨.tuple #[.agg #[.int .i64 vo, .int .i64 vn, .string vs, .slice va vm vk, .int .i64 vl, .int .i64 vc], .agg #[.int .i64 0, .int .i64 0, .int .i64 0]], ?_, ?_⟩
    · clear hwA hkA hnA hfA hwB hkB hnB hszA heB hBB hRB hvB hmf HNE HNF x0 x1 x2 x3 x4 x5 y0 y1 y2 y3 y4 y5 s0 s1 s2 ue uf
      simp [results, Tryd.results12, go_sem, p0, p1, p2, p3, p4, p5, f0, f1, f2]
    · show AnsE _ _ _ _
      rw [HRF.out]
      exact ⟨_, rfl, hvB, hBB⟩
end Go.Proofs.YtmkhfcdjgdofnaaDoor
