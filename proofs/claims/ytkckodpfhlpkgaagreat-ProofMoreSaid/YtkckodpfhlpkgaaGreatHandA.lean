/- A hand's lists: a number more, one fewer, none; the contract of its add. -/
import Derived.Test.YtkckodpfhlpkgaaGreatHandM
namespace Go.Proofs.YtkckodpfhlpkgaaGreat
open Go.RowKit LitM TrailM EngM

def updL {α : Type} (f : List UInt8 → α) (l : List UInt8) (x : α) : List UInt8 → α := fun s => if s = l then x else f s
theorem updL_at {α : Type} (f : List UInt8 → α) (l : List UInt8) (x : α) : updL f l x l = x := by simp [updL]
theorem updL_ne {α : Type} (f : List UInt8 → α) {l s : List UInt8} (x : α) (h : s ≠ l) : updL f l x s = f s := by simp [updL, h]
section
variable {B : Nat} {w0 w w' : World} {h : HdC} {c c' : TmC} {S S' : Eng} {q q' : Pm}
/-- A list that is told anew: its row lies in its old block or a new one. -/
theorem HdG.turn (H : HdG B w0 w h c S q) {W w3 w4 : World} (hW : Below w.heap.size w W) {l : List UInt8} {A : Option Addr} {cp : Nat} {zs : List Nat} {n' : Nat} (hr : SlV 3 1 w3 A zs.length cp (natC zs)) (hg : ∀ g, onB A g → onB (h.hd l).1 g ∨ W.heap.size ≤ g) (hk : Kf (fun k => onB (h.hd l).1 k) W w3)
    (hm : MapR w4 h.bm n' (updK h.hdV l (.slice A zs.length cp))) (hk4 : Kf (fun k => k = h.bm) w3 w4) :
    ∃ hl', HdG B w0 w4 { h with n := n', hd := updL h.hd l (A, cp), ns := updL h.ns l zs, hl := hl' } c S q ∧ (∀ k, k < w.heap.size → hl' k = h.hl k) ∧ Kf (fun k => h.hl k ≠ .no) w w4 := by
  classical
  have hkk : Kf (fun k => onB (h.hd l).1 k) w w3 := (Kf.of_below hW).trans hk (fun x hx => .inl hx)
  have hk3 : Kf (fun k => onB (h.hd l).1 k ∨ k = h.bm) w w4 := (hkk.mono fun x hx => .inl (.inl hx)).trans hk4 (fun x hx => .inl (.inr hx))
  have hne : ∀ {k : Nat}, h.hl k ≠ .list l → ¬ onB (h.hd l).1 k := fun hk e => hk (H.ll l _ e)
  have stay : ∀ {k}, h.hl k ≠ .no → h.hl k ≠ .list l → h.hl k ≠ .map → w4.heap[k]? = w.heap[k]? := fun h1 h2 h3 =>
    hk3.block _ (H.lo _ h1).2.2.2 (fun e => by rcases e with e | e; exact hne h2 e; rw [e, H.lm] at h3; exact h3 rfl)
  have hAl : ∀ g, onB A g → h.hl g = .list l ∨ w.heap.size ≤ g := fun g hg' => by
    rcases hg g hg' with e | e
    · exact .inl (H.ll l g e)
    · exact .inr (Nat.le_trans hW.size e)
  have hAbm : ¬ onB A h.bm := fun e => by
    rcases hAl _ e with x | x
    · rw [H.lm] at x; cases x
    · have := H.mp.lt; omega
  have old : ∀ k, k < w.heap.size → (if onB A k then Hl.list l else h.hl k) = h.hl k := fun k hk' => by
    by_cases e : onB A k
    · rw [if_pos e]
      rcases hAl k e with x | x
      · exact x.symm
      · omega
    · rw [if_neg e]
  have lt_of : ∀ {k}, h.hl k ≠ .no → k < w.heap.size := fun e => (H.lo _ e).2.2.2
  refine ⟨fun k => if onB A k then .list l else h.hl k, ⟨?_, ?_, ?_, ?_, fun s => ?_, ?_, ?_, fun k hk' => ?_, fun s k hk' => ?_, fun k hk' => ?_, H.tr⟩, old, hk3.mono fun x hx => .inl ?_⟩
  · exact H.tmk hk3 fun k e => by
      rcases e with e | e
      · exact .inl (by rw [H.ll l k e]; intro e; cases e)
      · exact .inl (by rw [e, H.lm]; intro e; cases e)
  · show w4.heap[h.bh]? = _
    rw [stay (by rw [H.lh]; intro e; cases e) (by rw [H.lh]; intro e; cases e) (by rw [H.lh]; intro e; cases e)]
    exact H.hh
  · have e : (updK h.hdV l (.slice A zs.length cp)) = HdC.hdV { h with n := n', hd := updL h.hd l (A, cp), ns := updL h.ns l zs, hl := fun k => if onB A k then .list l else h.hl k } := by
      funext s
      unfold updK HdC.hdV updL
      by_cases e : s = l
      · simp [e]
      · simp [e]
    rw [← e]; exact hm
  · exact H.cr.same fun j hj => stay (by rw [H.lc j hj]; intro e; cases e) (by rw [H.lc j hj]; intro e; cases e) (by rw [H.lc j hj]; intro e; cases e)
  · show SlV _ 1 w4 (updL h.hd l (A, cp) s).1 (updL h.ns l zs s).length (updL h.hd l (A, cp) s).2 (natC (updL h.ns l zs s))
    by_cases e : s = l
    · subst e
      rw [updL_at, updL_at]
      exact hr.same fun j hj => hk4.block j (hr.lt j hj) (fun e => hAbm (e ▸ hj))
    · rw [updL_ne _ _ e, updL_ne _ _ e]
      exact (H.ls s).same fun j hj => stay (by rw [H.ll s j hj]; intro e; cases e) (by rw [H.ll s j hj]; intro x; injection x with x; exact e x) (by rw [H.ll s j hj]; intro e; cases e)
  · show (if onB A h.bh then Hl.list l else h.hl h.bh) = _
    rw [old _ (lt_of (by rw [H.lh]; intro e; cases e))]; exact H.lh
  · show (if onB A h.bm then Hl.list l else h.hl h.bm) = _
    rw [old _ (lt_of (by rw [H.lm]; intro e; cases e))]; exact H.lm
  · show (if onB A k then Hl.list l else h.hl k) = _
    rw [old _ (lt_of (by rw [H.lc k hk']; intro e; cases e))]; exact H.lc k hk'
  · have hk' : onB (updL h.hd l (A, cp) s).1 k := hk'
    show (if onB A k then Hl.list l else h.hl k) = _
    by_cases e : s = l
    · subst e
      rw [updL_at] at hk'
      rw [if_pos hk']
    · rw [updL_ne _ _ e] at hk'
      rw [old _ (lt_of (by rw [H.ll s k hk']; intro e; cases e))]; exact H.ll s k hk'
  · have hk' : (if onB A k then Hl.list l else h.hl k) ≠ .no := hk'
    by_cases e : onB A k
    · have hlt : k < w4.heap.size := Nat.lt_of_lt_of_le (hr.lt k e) hk4.size
      rcases hAl k e with x | x
      · have := H.lo k (by rw [x]; intro e; cases e)
        exact ⟨this.1, this.2.1, this.2.2.1, hlt⟩
      · refine ⟨H.tm.eng.fresh x, Classical.byContradiction fun e => ?_, Nat.le_trans H.tm.eng.hs x, hlt⟩
        have := (H.tm.lo k e).2.2; omega
    · rw [if_neg e] at hk'
      have := H.lo k hk'
      exact ⟨this.1, this.2.1, this.2.2.1, Nat.lt_of_lt_of_le this.2.2.2 hk3.size⟩
  · rcases hx with e | e
    · rw [H.ll l x e]; intro e; cases e
    · rw [e, H.lm]; intro e; cases e
/-- What a hand's add leaves. -/
def HAdd (B : Nat) (w0 w : World) (h : HdC) (c : TmC) (S : Eng) (q : Pm) (num : Nat) (xs : List Int) (w' : World) : Prop :=
  ∃ ys h' c' S' q', IsClean xs ys ∧ HdG B w0 w' h' c' S' q' ∧ (h'.bh = h.bh ∧ h'.bm = h.bm ∧ h'.n = h.n + 1 ∧ h'.given = h.given ∧ h'.nc = h.nc ∧ h'.last = h.last) ∧ h'.ns = updL h.ns (keyL ys) (h.ns (keyL ys) ++ [num]) ∧
    ((h.ns (keyL ys) ≠ [] ∧ c' = c ∧ S' = S) ∨ (h.ns (keyL ys) = [] ∧ S' = addF S ys (bothB xs) ∧ ∃ An cn tl, c' = { c with settled := false, nums := c.nums ++ [num], An := An, cn := cn, pl := updF c.pl num (some S.cs.length), tl := tl })) ∧
    (∀ k, k < w.heap.size → q.own k = .no → c.tl k = .no → h.hl k = .no → w'.heap[k]? = w.heap[k]? ∧ q'.own k = .no ∧ c'.tl k = .no ∧ h'.hl k = .no) ∧ w.heap.size ≤ w'.heap.size
/-- What is left where a number is added to a list. -/
theorem HdG.push (H : HdG B w0 w h c S q) {W : World} (hW : Below w.heap.size w W) {l : List UInt8} {num : Nat} : ∀ (w4 w5 : World) (g4 c4 : Nat), RowV 3 1 w4 g4 ((h.ns l).length + 1) c4 (appV (natC (h.ns l)) (h.ns l).length [.int .i64 (num : Nat)]) → (onB (h.hd l).1 g4 ∨ W.heap.size ≤ g4) → Kf (fun k => onB (h.hd l).1 k) W w4 →
    MapR w5 h.bm (h.n + 1) (updK h.hdV l (.slice (some ⟨g4, 0, none⟩) ((h.ns l).length + 1) c4)) → Kf (fun k => k = h.bm) w4 w5 →
    ∃ hl' hd', HdG B w0 w5 { h with n := h.n + 1, hd := hd', ns := updL h.ns l (h.ns l ++ [num]), hl := hl' } c S q ∧ (∀ k, k < w.heap.size → hl' k = h.hl k) ∧ Kf (fun k => h.hl k ≠ .no) w w5 := fun w4 w5 g4 c4 hr hg hk hm hk4 => by
  have hl : (h.ns l ++ [num]).length = (h.ns l).length + 1 := by simp
  have hr2 : SlV 3 1 w4 (some ⟨g4, 0, none⟩) (h.ns l ++ [num]).length c4 (natC (h.ns l ++ [num])) := .inr ⟨g4, rfl, by
    rw [hl]
    refine hr.congr fun j hj => ?_
    unfold appV natC
    by_cases e : j < (h.ns l).length
    · rw [if_pos e, List.getD, List.getD, List.getElem?_append_left e]
    · rw [if_neg e]
      obtain rfl : j = (h.ns l).length := by omega
      simp⟩
  obtain ⟨hl', h1, h2, h3⟩ := H.turn (n' := h.n + 1) hW hr2 (fun g hg' => by
    rw [onB_some] at hg'
    have hg' : g = g4 := hg'
    rw [hg']; exact hg) hk (by rw [hl]; exact hm) hk4
  exact ⟨hl', _, h1, h2, h3⟩
set_option maxHeartbeats 6400000 in
set_option maxRecDepth 100000 in
theorem hadd_any (H : HdG B w0 w h c S q) (hcn : S.cs.length ≤ 20000) (hroom : c.room = 1048576) (num : Nat) (hnum : num < c.np) (hnp : c.np ≤ 90000) (hn : h.n < 100000) (hns : ∀ s, (h.ns s).length ≤ 90000) (A : Option Addr) (m cp : Nat) (xs : List Int) (hr : Rd .i32 w w.heap.size A m xs) (h32 : In32 xs) (hm : m * 4 ≤ 140737488351232) (ha : allOne xs = true) (hf : fitsB S.n xs = true) (hm2 : ∀ ys, IsClean xs ys → ys.length ≤ 10000) :
    Calls Tryz.prog 30 #[.pointer (some ⟨h.bh, 0, none⟩), .int .i64 (num : Nat), .slice A m cp] w fun e w' => e = .returned (.tuple #[]) ∧ HAdd B w0 w h c S q num xs w' := by
  have HK := Lib.hid (key_any A m cp xs w hr hm ha hm2)
  have HM2 := Lib.hid hm2
  have HA : Hid (∀ V, Below w.heap.size w V → Calls Tryz.prog 50 #[.pointer (some ⟨c.bt, 0, none⟩), .int .i64 (num : Nat), .slice A m cp] V fun e w' => e = .returned (.tuple #[]) ∧ TAdd B w0 V c S q num xs w') := fun V hV => tadd_any (H.tm.below hV) hcn hroom num hnum hnp A m cp xs ((hr.below hV).more hV.size) h32 hm hf hm2
  have HH := Lib.hid H
  have HNS := Lib.hid hns
  have HNM : Hid (h.n < maxLen) := by unfold Hid maxLen; omega
  clear H hr hm ha hf hm2 hcn hroom hnum hnp hns hn
  go_enter Tryz.func30, Tryz.ntmps30
  go_wp2_with fail
  refine HK.out.mono ?_
  rintro e w1 ⟨ys, hc, rfl, hb1⟩
  have hlm : (keyL ys).length ≤ maxLen := by
    rw [keyL_len]
    have := HM2.out ys hc
    unfold maxLen; omega
  have hks : keyS ys = ⟨(keyL ys).toArray⟩ := rfl
  rw [hks]
  obtain ⟨l, hl⟩ : ∃ l, l = keyL ys := ⟨_, rfl⟩
  rw [← hl]
  rw [← hl] at hlm
  have HLM := Lib.hid hlm
  have HLE := Lib.hid hl
  have HC := Lib.hid hc
  have H1 := HH.out.below hb1
  have HB1 := Lib.hid hb1
  obtain ⟨c0, c1, _⟩ := H1.cells
  have HMP1 := Lib.hid H1.mp
  clear HK HM2 hlm hl hc hb1 hks
  have hns0 : (h.ns l).length ≤ 90000 := HNS.out l
  cases hz : h.ns l with
  | nil =>
    have hv : h.hdV l = .slice (h.hd l).1 0 (h.hd l).2 := by unfold HdC.hdV; rw [hz]; rfl
    have HZ := Lib.hid hz
    have HA1 := Lib.hid (HA.out w1 HB1.out)
    clear HA hz
    go_wp2_with (at_lookup; refine wpList_lookup_raw _ rfl _ _ 47 rfl Tryz.underlying47 h.bm h.n h.hdV rfl HMP1.out l HLM.out rfl _ hv ?_)
    refine HA1.out.mono ?_
    rintro e w2 ⟨rfl, An, cn, tl, q2, ys2, hc2, hT, hx, htl⟩
    obtain rfl : ys2 = ys := hc2.unique HC.out
    have H2 := H1.team hT hx rfl htl
    have HX := Lib.hid hx
    have HTL := Lib.hid htl
    obtain ⟨c0, _⟩ := H2.cells
    have d1 : (w2.alloc (.cells #[.int .i64 (num : Nat)] 3)).cell? ⟨h.bh, 0, none⟩ = some (.map (some h.bm)) := by rw [World.cell?_alloc_lt _ _ _ (lt_of_heap H2.hh)]; exact c0
    have hbx : Below w2.heap.size w2 (w2.drew.alloc (.cells #[.int .i64 (num : Nat)] 3)) := (Below.refl w2.heap.size w2).drew.alloc (Nat.le_refl _) _
    have HSL0 := (H2.ls l).below hbx
    rw [HZ.out] at HSL0
    have HSL : Hid (SlV 3 1 (w2.drew.alloc (.cells #[.int .i64 (num : Nat)] 3)) (h.hd l).1 0 (h.hd l).2 (natC [])) := HSL0
    have nob : ∀ {k}, h.hl k ≠ .list l → ¬ onB (h.hd l).1 k := fun hk e => hk (HH.out.ll l _ e)
    have HD0 : Hid (∀ w4, Kf (fun k => onB (h.hd l).1 k) (w2.drew.alloc (.cells #[.int .i64 (num : Nat)] 3)) w4 → w4.cell? ⟨h.bh, 0, none⟩ = some (.map (some h.bm))) := fun w4 hk => by
      rw [hk.cell (p := ⟨h.bh, 0, none⟩) (Nat.lt_of_lt_of_le (lt_of_heap H2.hh) hbx.size) (nob (by rw [HH.out.lh]; intro e; cases e)), hbx.cell (p := ⟨h.bh, 0, none⟩) (lt_of_heap H2.hh)]
      exact c0
    have HMP : Hid (∀ w4, Kf (fun k => onB (h.hd l).1 k) (w2.drew.alloc (.cells #[.int .i64 (num : Nat)] 3)) w4 → MapR w4 h.bm h.n h.hdV) := fun w4 hk => by
      refine H2.mp.same ?_
      rw [hk.block h.bm (Nat.lt_of_lt_of_le H2.mp.lt hbx.size) (nob (by rw [HH.out.lm]; intro e; cases e)), hbx.block h.bm H2.mp.lt]
    have HPU : Hid (∀ w4 w5 g4 c4, RowV 3 1 w4 g4 (0 + 1) c4 (appV (natC []) 0 [.int .i64 (num : Nat)]) → (onB (h.hd l).1 g4 ∨ (w2.drew.alloc (.cells #[.int .i64 (num : Nat)] 3)).heap.size ≤ g4) → Kf (fun k => onB (h.hd l).1 k) (w2.drew.alloc (.cells #[.int .i64 (num : Nat)] 3)) w4 → MapR w5 h.bm (h.n + 1) (updK h.hdV l (.slice (some ⟨g4, 0, none⟩) (0 + 1) c4)) → Kf (fun k => k = h.bm) w4 w5 → HAdd B w0 w h c S q num xs w5) := fun w4 w5 g4 c4 a1 a2 a3 a4 a5 => by
      obtain ⟨hl', hd', b1, b2, b3⟩ := H2.push hbx (num := num) w4 w5 g4 c4 (by rw [HZ.out]; exact a1) a2 a3 (by rw [HZ.out]; exact a4) a5
      have hzk : h.ns (keyL ys2) = [] := by rw [← HLE.out]; exact HZ.out
      refine ⟨ys2, _, _, _, q2, HC.out, b1, ⟨rfl, rfl, rfl, rfl, rfl, rfl⟩, by rw [← HLE.out], .inr ⟨hzk, rfl, An, cn, tl, rfl⟩, fun k hk o1 o2 o3 => ?_, Nat.le_trans HB1.out.size (Nat.le_trans HX.out.kf.size b3.size)⟩
      have hk1 : k < w1.heap.size := Nat.lt_of_lt_of_le hk HB1.out.size
      have hk2 : k < w2.heap.size := Nat.lt_of_lt_of_le hk1 HX.out.kf.size
      refine ⟨?_, by rw [HX.out.old k hk1]; exact o1, by show tl k = _; rw [HTL.out k hk1]; exact o2, by show hl' k = _; rw [b2 k hk2]; exact o3⟩
      rw [b3.block k hk2 (fun e => e o3), HX.out.kf.block k hk1 (fun e => by rcases e with e | e; exact e o1; exact e o2)]
      exact HB1.out.block k hk
    clear hT hx htl H1 H2 hbx HSL0 nob HA1 hv hc2 HNS hns0
    go_upto_region 4 with (fail)
    refine wp_region_any (by kernel_rfl) ?_
    change wpAny _ _ _ _ _ _ _ (World.drew _)
    refine wpAny_take (i := 0) (v := ?_) rfl (by kernel_rfl) (by kernel_rfl) (by kernel_rfl) (fun _ _ _ h => h) (Or.inl ⟨by kernel_rfl, ?_⟩) ?_
    rotate_left 1
    · (intro w; go_simp <;> with_reducible rfl)
    go_simp
    refine wpAny_take (i := 1) (v := ?_) rfl (by kernel_rfl) (by kernel_rfl) (by kernel_rfl) (fun _ _ _ h => h) (Or.inl ⟨by kernel_rfl, ?_⟩) ?_
    rotate_left 1
    · (intro w; go_simp <;> with_reducible rfl)
    go_simp
    refine wpAny_take (i := 2) (v := ?_) rfl (by kernel_rfl) (by kernel_rfl) (by kernel_rfl) (fun _ _ _ h => h) (Or.inl ⟨by kernel_rfl, ?_⟩) ?_
    rotate_left 1
    · (intro w; go_simp <;> with_reducible rfl)
    go_simp
    refine wpAny_take (i := 4) (v := ?_) rfl (by kernel_rfl) (by kernel_rfl) (by kernel_rfl) (fun _ _ _ h => h) (Or.inl ⟨by kernel_rfl, ?_⟩) ?_
    rotate_left 1
    · (intro w; go_simp <;> with_reducible rfl)
    go_simp
    refine wpAny_take (i := 5) (v := ?_) rfl (by kernel_rfl) (by kernel_rfl) (by kernel_rfl) (fun _ _ _ h => h) (Or.inl ⟨by kernel_rfl, ?_⟩) ?_
    rotate_left 1
    · (intro w; go_simp <;> with_reducible rfl)
    go_simp
    refine wpAny_take (i := 6) (v := ?_) rfl (by kernel_rfl) (by kernel_rfl) (by kernel_rfl) (fun _ _ _ h => h) (Or.inl ⟨by kernel_rfl, ?_⟩) ?_
    rotate_left 1
    · (intro w; go_simp <;> with_reducible rfl)
    go_simp
    refine wpAny_ready (rs := [3, 7]) (by kernel_rfl) (by simp) ?_
    refine AllReady.cons rfl (fun K hK => ?_) ?_
    ·
      go_simp
      refine hK _ _ ?_; clear hK K
      refine wpAny_ready (rs := [7]) (by kernel_rfl) (by simp) ?_
      refine AllReady.cons rfl (fun K hK => ?_) ?_
      ·
        go_simp
        refine hK _ _ ?_; clear hK K
        refine wpAny_ready (rs := [8]) (by kernel_rfl) (by simp) ?_
        refine AllReady.cons rfl (fun K hK => ?_) ?_
        ·
          refine step_append_sl _ rfl _ _ 37 3 rfl Tryz.underlying37 info_int1 rfl (by decide) (by decide) (h.hd l).1 0 (h.hd l).2 (natC []) rfl HSL.out (by omega) ⟨w2.heap.size, 0, none⟩ 1 1 [.int .i64 (num : Nat)] rfl rfl (box_news w2.drew 3 _) (by simp [Value.oneCell']) (by omega) (by omega) ?_
          intro g4 c4 w4 hr4 hg4 hk4
          have hk5 := hk4 (fun k => onB (h.hd l).1 k) (fun j hj => hj)
          have d0 : w4.cell? ⟨h.bh, 0, none⟩ = some (.map (some h.bm)) := HD0.out w4 hk5
          refine hK _ _ ?_; clear hK K
          refine wpAny_ready (rs := [9]) (by kernel_rfl) (by simp) ?_
          refine AllReady.cons rfl (fun K hK => ?_) ?_
          ·
            refine step_mapUpdate_raw w4 rfl _ _ _ 47 rfl Tryz.underlying47 h.bm h.n h.hdV rfl (HMP.out w4 hk5) HNM.out l HLM.out rfl _ rfl ?_
            intro w5 hm5 hk6
            refine hK _ _ ?_; clear hK K
            refine wpAny_done (by kernel_rfl) ?_ _
            have HFin := Lib.hid (HPU.out w4 w5 g4 c4 (by first | exact hr4 | (rw [Nat.mul_one] at hr4; exact hr4)) hg4 hk5 hm5 hk6)
            clear hr4 hg4 hk4 hk5 hm5 hk6 d0
            go_wp2_with fail
            go_end0
            exact ⟨rfl, HFin.out⟩
          exact AllReady.nil
        exact AllReady.nil
      exact AllReady.nil
    refine AllReady.cons rfl (fun K hK => ?_) ?_
    ·
      go_simp
      refine hK _ _ ?_; clear hK K
      refine wpAny_ready (rs := [3, 8]) (by kernel_rfl) (by simp) ?_
      refine AllReady.cons rfl (fun K hK => ?_) ?_
      ·
        go_simp
        refine hK _ _ ?_; clear hK K
        refine wpAny_ready (rs := [8]) (by kernel_rfl) (by simp) ?_
        refine AllReady.cons rfl (fun K hK => ?_) ?_
        ·
          refine step_append_sl _ rfl _ _ 37 3 rfl Tryz.underlying37 info_int1 rfl (by decide) (by decide) (h.hd l).1 0 (h.hd l).2 (natC []) rfl HSL.out (by omega) ⟨w2.heap.size, 0, none⟩ 1 1 [.int .i64 (num : Nat)] rfl rfl (box_news w2.drew 3 _) (by simp [Value.oneCell']) (by omega) (by omega) ?_
          intro g4 c4 w4 hr4 hg4 hk4
          have hk5 := hk4 (fun k => onB (h.hd l).1 k) (fun j hj => hj)
          have d0 : w4.cell? ⟨h.bh, 0, none⟩ = some (.map (some h.bm)) := HD0.out w4 hk5
          refine hK _ _ ?_; clear hK K
          refine wpAny_ready (rs := [9]) (by kernel_rfl) (by simp) ?_
          refine AllReady.cons rfl (fun K hK => ?_) ?_
          ·
            refine step_mapUpdate_raw w4 rfl _ _ _ 47 rfl Tryz.underlying47 h.bm h.n h.hdV rfl (HMP.out w4 hk5) HNM.out l HLM.out rfl _ rfl ?_
            intro w5 hm5 hk6
            refine hK _ _ ?_; clear hK K
            refine wpAny_done (by kernel_rfl) ?_ _
            have HFin := Lib.hid (HPU.out w4 w5 g4 c4 (by first | exact hr4 | (rw [Nat.mul_one] at hr4; exact hr4)) hg4 hk5 hm5 hk6)
            clear hr4 hg4 hk4 hk5 hm5 hk6 d0
            go_wp2_with fail
            go_end0
            exact ⟨rfl, HFin.out⟩
          exact AllReady.nil
        exact AllReady.nil
      refine AllReady.cons rfl (fun K hK => ?_) ?_
      ·
        refine step_append_sl _ rfl _ _ 37 3 rfl Tryz.underlying37 info_int1 rfl (by decide) (by decide) (h.hd l).1 0 (h.hd l).2 (natC []) rfl HSL.out (by omega) ⟨w2.heap.size, 0, none⟩ 1 1 [.int .i64 (num : Nat)] rfl rfl (box_news w2.drew 3 _) (by simp [Value.oneCell']) (by omega) (by omega) ?_
        intro g4 c4 w4 hr4 hg4 hk4
        have hk5 := hk4 (fun k => onB (h.hd l).1 k) (fun j hj => hj)
        have d0 : w4.cell? ⟨h.bh, 0, none⟩ = some (.map (some h.bm)) := HD0.out w4 hk5
        refine hK _ _ ?_; clear hK K
        refine wpAny_ready (rs := [3]) (by kernel_rfl) (by simp) ?_
        refine AllReady.cons rfl (fun K hK => ?_) ?_
        ·
          go_simp
          refine hK _ _ ?_; clear hK K
          refine wpAny_ready (rs := [9]) (by kernel_rfl) (by simp) ?_
          refine AllReady.cons rfl (fun K hK => ?_) ?_
          ·
            refine step_mapUpdate_raw w4 rfl _ _ _ 47 rfl Tryz.underlying47 h.bm h.n h.hdV rfl (HMP.out w4 hk5) HNM.out l HLM.out rfl _ rfl ?_
            intro w5 hm5 hk6
            refine hK _ _ ?_; clear hK K
            refine wpAny_done (by kernel_rfl) ?_ _
            have HFin := Lib.hid (HPU.out w4 w5 g4 c4 (by first | exact hr4 | (rw [Nat.mul_one] at hr4; exact hr4)) hg4 hk5 hm5 hk6)
            clear hr4 hg4 hk4 hk5 hm5 hk6 d0
            go_wp2_with fail
            go_end0
            exact ⟨rfl, HFin.out⟩
          exact AllReady.nil
        exact AllReady.nil
      exact AllReady.nil
    exact AllReady.nil
  | cons z0 zr =>
    have hzl : 0 < (h.ns l).length := by rw [hz]; simp
    have t0 : (((h.ns l).length : Int) == 0) = false := by rw [beq_eq_false_iff_ne]; omega
    have hv : h.hdV l = .slice (h.hd l).1 (h.ns l).length (h.hd l).2 := rfl
    have HZ : Hid (h.ns l ≠ []) := by rw [hz]; intro e; cases e
    clear HA hz
    have d1 : (w1.alloc (.cells #[.int .i64 (num : Nat)] 3)).cell? ⟨h.bh, 0, none⟩ = some (.map (some h.bm)) := by rw [World.cell?_alloc_lt _ _ _ (lt_of_heap H1.hh)]; exact c0
    have hbx : Below w1.heap.size w1 (w1.drew.alloc (.cells #[.int .i64 (num : Nat)] 3)) := (Below.refl w1.heap.size w1).drew.alloc (Nat.le_refl _) _
    have HSL := Lib.hid ((H1.ls l).below hbx)
    have nob : ∀ {k}, h.hl k ≠ .list l → ¬ onB (h.hd l).1 k := fun hk e => hk (HH.out.ll l _ e)
    have HD0 : Hid (∀ w4, Kf (fun k => onB (h.hd l).1 k) (w1.drew.alloc (.cells #[.int .i64 (num : Nat)] 3)) w4 → w4.cell? ⟨h.bh, 0, none⟩ = some (.map (some h.bm))) := fun w4 hk => by
      rw [hk.cell (p := ⟨h.bh, 0, none⟩) (Nat.lt_of_lt_of_le (lt_of_heap H1.hh) hbx.size) (nob (by rw [HH.out.lh]; intro e; cases e)), hbx.cell (p := ⟨h.bh, 0, none⟩) (lt_of_heap H1.hh)]
      exact c0
    have HMP : Hid (∀ w4, Kf (fun k => onB (h.hd l).1 k) (w1.drew.alloc (.cells #[.int .i64 (num : Nat)] 3)) w4 → MapR w4 h.bm h.n h.hdV) := fun w4 hk => by
      refine H1.mp.same ?_
      rw [hk.block h.bm (Nat.lt_of_lt_of_le H1.mp.lt hbx.size) (nob (by rw [HH.out.lm]; intro e; cases e)), hbx.block h.bm H1.mp.lt]
    have HPU : Hid (∀ w4 w5 g4 c4, RowV 3 1 w4 g4 ((h.ns l).length + 1) c4 (appV (natC (h.ns l)) (h.ns l).length [.int .i64 (num : Nat)]) → (onB (h.hd l).1 g4 ∨ (w1.drew.alloc (.cells #[.int .i64 (num : Nat)] 3)).heap.size ≤ g4) → Kf (fun k => onB (h.hd l).1 k) (w1.drew.alloc (.cells #[.int .i64 (num : Nat)] 3)) w4 → MapR w5 h.bm (h.n + 1) (updK h.hdV l (.slice (some ⟨g4, 0, none⟩) ((h.ns l).length + 1) c4)) → Kf (fun k => k = h.bm) w4 w5 → HAdd B w0 w h c S q num xs w5) := fun w4 w5 g4 c4 a1 a2 a3 a4 a5 => by
      obtain ⟨hl', hd', b1, b2, b3⟩ := H1.push hbx (num := num) w4 w5 g4 c4 a1 a2 a3 a4 a5
      have hzk : h.ns (keyL ys) ≠ [] := by rw [← HLE.out]; exact HZ.out
      refine ⟨ys, _, _, _, q, HC.out, b1, ⟨rfl, rfl, rfl, rfl, rfl, rfl⟩, by rw [← HLE.out], .inl ⟨hzk, rfl, rfl⟩, fun k hk o1 o2 o3 => ?_, Nat.le_trans HB1.out.size b3.size⟩
      have hk1 : k < w1.heap.size := Nat.lt_of_lt_of_le hk HB1.out.size
      refine ⟨?_, o1, o2, by show hl' k = _; rw [b2 k hk1]; exact o3⟩
      rw [b3.block k hk1 (fun e => e o3)]
      exact HB1.out.block k hk
    go_wp2_with (at_lookup; refine wpList_lookup_raw _ rfl _ _ 47 rfl Tryz.underlying47 h.bm h.n h.hdV rfl HMP1.out l HLM.out rfl _ hv ?_)
    clear H1 hbx nob hv HNS hzl
    go_upto_region 4 with (fail)
    refine wp_region_any (by kernel_rfl) ?_
    change wpAny _ _ _ _ _ _ _ (World.drew _)
    refine wpAny_take (i := 0) (v := ?_) rfl (by kernel_rfl) (by kernel_rfl) (by kernel_rfl) (fun _ _ _ h => h) (Or.inl ⟨by kernel_rfl, ?_⟩) ?_
    rotate_left 1
    · (intro w; go_simp <;> with_reducible rfl)
    go_simp
    refine wpAny_take (i := 1) (v := ?_) rfl (by kernel_rfl) (by kernel_rfl) (by kernel_rfl) (fun _ _ _ h => h) (Or.inl ⟨by kernel_rfl, ?_⟩) ?_
    rotate_left 1
    · (intro w; go_simp <;> with_reducible rfl)
    go_simp
    refine wpAny_take (i := 2) (v := ?_) rfl (by kernel_rfl) (by kernel_rfl) (by kernel_rfl) (fun _ _ _ h => h) (Or.inl ⟨by kernel_rfl, ?_⟩) ?_
    rotate_left 1
    · (intro w; go_simp <;> with_reducible rfl)
    go_simp
    refine wpAny_take (i := 4) (v := ?_) rfl (by kernel_rfl) (by kernel_rfl) (by kernel_rfl) (fun _ _ _ h => h) (Or.inl ⟨by kernel_rfl, ?_⟩) ?_
    rotate_left 1
    · (intro w; go_simp <;> with_reducible rfl)
    go_simp
    refine wpAny_take (i := 5) (v := ?_) rfl (by kernel_rfl) (by kernel_rfl) (by kernel_rfl) (fun _ _ _ h => h) (Or.inl ⟨by kernel_rfl, ?_⟩) ?_
    rotate_left 1
    · (intro w; go_simp <;> with_reducible rfl)
    go_simp
    refine wpAny_take (i := 6) (v := ?_) rfl (by kernel_rfl) (by kernel_rfl) (by kernel_rfl) (fun _ _ _ h => h) (Or.inl ⟨by kernel_rfl, ?_⟩) ?_
    rotate_left 1
    · (intro w; go_simp <;> with_reducible rfl)
    go_simp
    refine wpAny_ready (rs := [3, 7]) (by kernel_rfl) (by simp) ?_
    refine AllReady.cons rfl (fun K hK => ?_) ?_
    ·
      go_simp
      refine hK _ _ ?_; clear hK K
      refine wpAny_ready (rs := [7]) (by kernel_rfl) (by simp) ?_
      refine AllReady.cons rfl (fun K hK => ?_) ?_
      ·
        go_simp
        refine hK _ _ ?_; clear hK K
        refine wpAny_ready (rs := [8]) (by kernel_rfl) (by simp) ?_
        refine AllReady.cons rfl (fun K hK => ?_) ?_
        ·
          refine step_append_sl _ rfl _ _ 37 3 rfl Tryz.underlying37 info_int1 rfl (by decide) (by decide) (h.hd l).1 (h.ns l).length (h.hd l).2 (natC (h.ns l)) rfl HSL.out (by omega) ⟨w1.heap.size, 0, none⟩ 1 1 [.int .i64 (num : Nat)] rfl rfl (box_news w1.drew 3 _) (by simp [Value.oneCell']) (by omega) (by omega) ?_
          intro g4 c4 w4 hr4 hg4 hk4
          have hk5 := hk4 (fun k => onB (h.hd l).1 k) (fun j hj => hj)
          have d0 : w4.cell? ⟨h.bh, 0, none⟩ = some (.map (some h.bm)) := HD0.out w4 hk5
          refine hK _ _ ?_; clear hK K
          refine wpAny_ready (rs := [9]) (by kernel_rfl) (by simp) ?_
          refine AllReady.cons rfl (fun K hK => ?_) ?_
          ·
            refine step_mapUpdate_raw w4 rfl _ _ _ 47 rfl Tryz.underlying47 h.bm h.n h.hdV rfl (HMP.out w4 hk5) HNM.out l HLM.out rfl _ rfl ?_
            intro w5 hm5 hk6
            refine hK _ _ ?_; clear hK K
            refine wpAny_done (by kernel_rfl) ?_ _
            have HFin := Lib.hid (HPU.out w4 w5 g4 c4 (by first | exact hr4 | (rw [Nat.mul_one] at hr4; exact hr4)) hg4 hk5 hm5 hk6)
            clear hr4 hg4 hk4 hk5 hm5 hk6 d0
            go_wp2_with fail
            go_end0
            exact ⟨rfl, HFin.out⟩
          exact AllReady.nil
        exact AllReady.nil
      exact AllReady.nil
    refine AllReady.cons rfl (fun K hK => ?_) ?_
    ·
      go_simp
      refine hK _ _ ?_; clear hK K
      refine wpAny_ready (rs := [3, 8]) (by kernel_rfl) (by simp) ?_
      refine AllReady.cons rfl (fun K hK => ?_) ?_
      ·
        go_simp
        refine hK _ _ ?_; clear hK K
        refine wpAny_ready (rs := [8]) (by kernel_rfl) (by simp) ?_
        refine AllReady.cons rfl (fun K hK => ?_) ?_
        ·
          refine step_append_sl _ rfl _ _ 37 3 rfl Tryz.underlying37 info_int1 rfl (by decide) (by decide) (h.hd l).1 (h.ns l).length (h.hd l).2 (natC (h.ns l)) rfl HSL.out (by omega) ⟨w1.heap.size, 0, none⟩ 1 1 [.int .i64 (num : Nat)] rfl rfl (box_news w1.drew 3 _) (by simp [Value.oneCell']) (by omega) (by omega) ?_
          intro g4 c4 w4 hr4 hg4 hk4
          have hk5 := hk4 (fun k => onB (h.hd l).1 k) (fun j hj => hj)
          have d0 : w4.cell? ⟨h.bh, 0, none⟩ = some (.map (some h.bm)) := HD0.out w4 hk5
          refine hK _ _ ?_; clear hK K
          refine wpAny_ready (rs := [9]) (by kernel_rfl) (by simp) ?_
          refine AllReady.cons rfl (fun K hK => ?_) ?_
          ·
            refine step_mapUpdate_raw w4 rfl _ _ _ 47 rfl Tryz.underlying47 h.bm h.n h.hdV rfl (HMP.out w4 hk5) HNM.out l HLM.out rfl _ rfl ?_
            intro w5 hm5 hk6
            refine hK _ _ ?_; clear hK K
            refine wpAny_done (by kernel_rfl) ?_ _
            have HFin := Lib.hid (HPU.out w4 w5 g4 c4 (by first | exact hr4 | (rw [Nat.mul_one] at hr4; exact hr4)) hg4 hk5 hm5 hk6)
            clear hr4 hg4 hk4 hk5 hm5 hk6 d0
            go_wp2_with fail
            go_end0
            exact ⟨rfl, HFin.out⟩
          exact AllReady.nil
        exact AllReady.nil
      refine AllReady.cons rfl (fun K hK => ?_) ?_
      ·
        refine step_append_sl _ rfl _ _ 37 3 rfl Tryz.underlying37 info_int1 rfl (by decide) (by decide) (h.hd l).1 (h.ns l).length (h.hd l).2 (natC (h.ns l)) rfl HSL.out (by omega) ⟨w1.heap.size, 0, none⟩ 1 1 [.int .i64 (num : Nat)] rfl rfl (box_news w1.drew 3 _) (by simp [Value.oneCell']) (by omega) (by omega) ?_
        intro g4 c4 w4 hr4 hg4 hk4
        have hk5 := hk4 (fun k => onB (h.hd l).1 k) (fun j hj => hj)
        have d0 : w4.cell? ⟨h.bh, 0, none⟩ = some (.map (some h.bm)) := HD0.out w4 hk5
        refine hK _ _ ?_; clear hK K
        refine wpAny_ready (rs := [3]) (by kernel_rfl) (by simp) ?_
        refine AllReady.cons rfl (fun K hK => ?_) ?_
        ·
          go_simp
          refine hK _ _ ?_; clear hK K
          refine wpAny_ready (rs := [9]) (by kernel_rfl) (by simp) ?_
          refine AllReady.cons rfl (fun K hK => ?_) ?_
          ·
            refine step_mapUpdate_raw w4 rfl _ _ _ 47 rfl Tryz.underlying47 h.bm h.n h.hdV rfl (HMP.out w4 hk5) HNM.out l HLM.out rfl _ rfl ?_
            intro w5 hm5 hk6
            refine hK _ _ ?_; clear hK K
            refine wpAny_done (by kernel_rfl) ?_ _
            have HFin := Lib.hid (HPU.out w4 w5 g4 c4 (by first | exact hr4 | (rw [Nat.mul_one] at hr4; exact hr4)) hg4 hk5 hm5 hk6)
            clear hr4 hg4 hk4 hk5 hm5 hk6 d0
            go_wp2_with fail
            go_end0
            exact ⟨rfl, HFin.out⟩
          exact AllReady.nil
        exact AllReady.nil
      exact AllReady.nil
    exact AllReady.nil
end
end Go.Proofs.YtkckodpfhlpkgaaGreat
