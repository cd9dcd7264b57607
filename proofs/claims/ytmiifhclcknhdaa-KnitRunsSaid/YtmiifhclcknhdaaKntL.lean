/- A Knit of a law's own: New; knitAlive is true. -/
import Derived.Test.YtmiifhclcknhdaaKntJ
namespace Go.Proofs.Ytmiifhclcknhdaa
open Go.RowKit GatM KntM Go.Lib

/-- A Knit of a law's own, beside its circuit. -/
structure KL (B : Nat) (w0 w : World) (q : KnC) (c : GrC) (gs : Gs) (M m : Nat) (K : List Nat) : Prop where
  kn : KN w q c gs M m K
  lv : LvG B w0 w c gs
  lo : ∀ k, q.own k ≠ 0 → B ≤ k
theorem knew_any (bg bs : Nat) (w : World) : Calls Try.prog 8 #[.pointer (some ⟨bg, 0, none⟩), .iface 31 (.pointer (some ⟨bs, 0, none⟩))] w
    fun e w' => e = .returned (.pointer (some ⟨w.heap.size, 0, none⟩)) ∧ w' = w.alloc (.cells #[.pointer (some ⟨bg, 0, none⟩), .iface 31 (.pointer (some ⟨bs, 0, none⟩)), .slice none 0 0, .int .i64 0, .slice none 0 0] 71) := by
  go_enter Try.func8, Try.ntmps8
  go_wp2_with fail
  go_ret
  exact ⟨rfl, rfl⟩
section
variable {B : Nat} {w0 w w' : World} {q q' : KnC} {c : GrC} {gs : Gs} {M m m' : Nat} {K K' : List Nat}
theorem KL.new (h : LvG B w0 w c gs) (M : Nat) {w6 w7 : World} (e6 : w6 = w.alloc (.cells #[.int .i64 0, .slice none 0 0, .int .i64 (M : Int)] 36))
    (e7 : w7 = w6.alloc (.cells #[.pointer (some ⟨c.bg, 0, none⟩), .iface 31 (.pointer (some ⟨w.heap.size, 0, none⟩)), .slice none 0 0, .int .i64 0, .slice none 0 0] 71)) :
    ∃ q, q.bk = w6.heap.size ∧ q.bs = w.heap.size ∧ KL B w0 w7 q c gs M 0 [] ∧ ∀ k, k < w.heap.size → q.own k = 0 := by
  have s6 : w6.heap.size = w.heap.size + 1 := by rw [e6]; simp
  have s7 : w7.heap.size = w.heap.size + 1 + 1 := by rw [e7]; simp [s6]
  have b6 : Below w.heap.size w w6 := by rw [e6]; exact (Below.refl _ _).alloc (Nat.le_refl _) _
  have b7 : Below w.heap.size w w7 := by rw [e7]; exact b6.alloc (by omega) _
  have hs6 := blk_new w (.cells #[.int .i64 0, .slice none 0 0, .int .i64 (M : Int)] 36)
  rw [← e6] at hs6
  have hk7 := blk_new w6 (.cells #[.pointer (some ⟨c.bg, 0, none⟩), .iface 31 (.pointer (some ⟨w.heap.size, 0, none⟩)), .slice none 0 0, .int .i64 0, .slice none 0 0] 71)
  rw [← e7] at hk7
  refine ⟨⟨w6.heap.size, w.heap.size, none, 0, none, 0, none, 0, fun k => if k = w6.heap.size then 1 else if k = w.heap.size then 2 else 0⟩, rfl, rfl, ⟨⟨⟨hk7, ?_, ⟨.inl ⟨rfl, rfl, rfl⟩, fun k hk => absurd hk (onB_none k)⟩, ⟨.inl ⟨rfl, rfl, rfl⟩, fun k hk => absurd hk (onB_none k)⟩, ?_, ?_, ?_, ?_⟩, h.at_.below b7, h.wf, OkK.nil gs, ⟨Nat.zero_le _, by simp⟩, ?_⟩, h.below b7, ?_⟩, ?_⟩
  · show w7.heap[w.heap.size]? = _
    rw [e7, Below.heap_alloc _ _ _ (by omega)]
    exact hs6
  · exact ⟨fun _ => .int .i64 0, ⟨.inl ⟨rfl, rfl, rfl⟩, fun k hk => absurd hk (onB_none k)⟩, fun j hj => by simp [knS, clsK] at hj⟩
  · show (if w6.heap.size = w6.heap.size then 1 else _) = 1
    rw [if_pos rfl]
  · show (if w.heap.size = w6.heap.size then 1 else if w.heap.size = w.heap.size then 2 else 0) = 2
    rw [if_neg (by omega), if_pos rfl]
  · intro k hk
    show (if k = w6.heap.size then 1 else if k = w.heap.size then 2 else 0) = 0
    rw [if_neg (by omega), if_neg (by omega)]
  · intro k hk
    have := h.at_.lt hk
    show (if k = w6.heap.size then 1 else if k = w.heap.size then 2 else 0) = 0
    rw [if_neg (by omega), if_neg (by omega)]
  · intro k hk
    have hk : (if k = w6.heap.size then 1 else if k = w.heap.size then 2 else 0) ≠ 0 := hk
    have := h.hB
    by_cases e : k = w6.heap.size
    · omega
    · by_cases e2 : k = w.heap.size
      · omega
      · rw [if_neg e, if_neg e2] at hk; exact absurd rfl hk
  · intro k hk
    show (if k = w6.heap.size then 1 else if k = w.heap.size then 2 else 0) = 0
    rw [if_neg (by omega), if_neg (by omega)]
theorem KL.to (h : KL B w0 w q c gs M m K) (hk : KN w' q' c gs M m' K') (hT : KnTo w w' q q') : KL B w0 w' q' c gs M m' K' :=
  ⟨hk, ⟨hk.gr, hk.wf, h.lv.be.trans (hT.kf.below h.lv.hB h.lo), h.lv.lo, Nat.le_trans h.lv.hB hT.kf.size⟩, fun k hk' => by
    rcases hT.nw k hk' with e | e
    · exact h.lo k e
    · exact Nat.le_trans h.lv.hB e⟩
theorem KL.below (h : KL B w0 w q c gs M m K) (hb : Below w.heap.size w w') : KL B w0 w' q c gs M m K := ⟨h.kn.below hb, h.lv.below hb, h.lo⟩
/-- What the sink has. -/
theorem KL.sink (h : KL B w0 w q c gs M m K) : w.cell? ⟨q.bs, 0, none⟩ = some (.int .i64 (K.length : Int)) ∧ w.cell? ⟨q.bs, 1, none⟩ = some (.slice q.Ac (clsK gs K).length q.cc) :=
  ⟨h.kn.at_.scells.1, h.kn.at_.scells.2.1⟩
end
/-- The example: three variables, three clauses. -/
theorem ex_reach {x : Nat} (h : RchK [(0, 0), (0, 0), (0, 0), (2, 4)] [7] x) : x = 1 ∨ x = 2 ∨ x = 3 := by
  have key : ∀ i, (i = 1 ∨ i = 2 ∨ i = 3) → getG [(0, 0), (0, 0), (0, 0), (2, 4)] i ≠ (0, 0) → i = 3 := by
    rintro i (rfl | rfl | rfl) hne
    · exact absurd rfl hne
    · exact absurd rfl hne
    · rfl
  induction h with
  | root he => obtain rfl := List.mem_singleton.1 he; exact .inr (.inr rfl)
  | left _ hne ih => rw [key _ ih hne]; exact .inl rfl
  | right _ hne ih => rw [key _ ih hne]; exact .inr (.inl rfl)
theorem ex_facts {D : List Nat} (hok : OkK [(0, 0), (0, 0), (0, 0), (2, 4)] D) (h3 : 3 ∈ D) (hr : ∀ y ∈ D, RchK [(0, 0), (0, 0), (0, 0), (2, 4)] [7] y) : D.length = 3 ∧ (clsK [(0, 0), (0, 0), (0, 0), (2, 4)] D).length = 3 := by
  have hc := hok.cl 3 h3 (by decide)
  have hp : D.Perm [1, 2, 3] := (List.perm_ext_iff_of_nodup hok.nd (by decide)).2 fun x => by
    constructor
    · intro hx
      rcases ex_reach (hr x hx) with rfl | rfl | rfl <;> simp
    · intro hx
      simp only [List.mem_cons, List.not_mem_nil, or_false] at hx
      rcases hx with rfl | rfl | rfl
      · exact hc.1
      · exact hc.2
      · exact h3
  refine ⟨hp.length_eq, ?_⟩
  have := (List.Perm.flatMap_right (tellL [(0, 0), (0, 0), (0, 0), (2, 4)] D) hp).length_eq
  unfold clsK
  rw [this]
  rfl
set_option maxHeartbeats 6400000 in
set_option maxRecDepth 100000 in
theorem kalive_any (w : World) : Calls Try.prog 9 #[] w fun e w' => e = .returned (.bool true) ∧ Below w.heap.size w w' := by
  go_enter Try.func9, Try.ntmps9
  go_wp2_with fail
  refine (gnew_any w).mono ?_
  intro e w1 hN
  obtain ⟨c1, rfl, h1⟩ := LvG.new hN (Below.refl w.heap.size w) (Nat.le_refl _)
  clear hN
  obtain ⟨b, hb⟩ : ∃ b, b = c1.bg := ⟨_, rfl⟩
  rw [← hb]
  have hi1 : Calls Try.prog 7 #[.pointer (some ⟨b, 0, none⟩)] w1 fun e w' => e = .returned (.tuple #[.int .u32 2, .int .i64 0]) ∧ ∃ c', LvG w.heap.size w w' c' [(0, 0), (0, 0)] ∧ c'.bg = b := by
    rw [hb]; exact (h1.input (by decide)).mono fun e w' ⟨p, c', q⟩ => ⟨p, c', q.lv, q.bg⟩
  have HI1 := Lib.hid hi1
  clear hi1 h1 hb
  go_wp2_with fail
  refine HI1.out.mono ?_
  rintro e w2 ⟨rfl, c2, h2, hb⟩
  have hi2 : Calls Try.prog 7 #[.pointer (some ⟨b, 0, none⟩)] w2 fun e w' => e = .returned (.tuple #[.int .u32 4, .int .i64 0]) ∧ ∃ c', LvG w.heap.size w w' c' [(0, 0), (0, 0), (0, 0)] ∧ c'.bg = b := by
    rw [← hb]; exact (h2.input (by decide)).mono fun e w' ⟨p, c', q⟩ => ⟨p, c', q.lv, q.bg⟩
  have HI2 := Lib.hid hi2
  clear hi2 h2 hb HI1
  go_wp2_with fail
  refine HI2.out.mono ?_
  rintro e w3 ⟨rfl, c3, h3, hb⟩
  have h3a := h3.below ((Below.refl w3.heap.size w3).alloc (Nat.le_refl _) (.cells #[.int .u32 2, .int .u32 4] 25))
  have ha3 : Calls Try.prog 22 #[.pointer (some ⟨b, 0, none⟩), .slice (some ⟨w3.heap.size, 0, none⟩) 2 2] (w3.alloc (.cells #[.int .u32 2, .int .u32 4] 25)) fun e w' => e = .returned (.tuple #[.int .u32 6, .int .i64 0]) ∧ ∃ c', LvG w.heap.size w w' c' [(0, 0), (0, 0), (0, 0), (2, 4)] ∧ c'.bg = b := by
    rw [← hb]; exact (h3a.and (some ⟨w3.heap.size, 0, none⟩) 2 2 [2, 4] (rdn_made .u32 w3 25 [2, 4]) (h3.fresh) (by intro x hx; simp at hx; rcases hx with rfl | rfl <;> decide) (by decide)).mono fun e w' ⟨p, c', q⟩ => ⟨p, c', q.lv, q.bg⟩
  have HA3 := Lib.hid ha3
  clear ha3 h3 h3a hb HI2
  go_wp2_with fail
  refine HA3.out.mono ?_
  rintro e w4 ⟨rfl, c4, h4, hb⟩
  have HL4 := Lib.hid h4
  have HB4 := Lib.hid hb
  clear h4 hb HA3
  go_wp2_with fail
  refine (knew_any b w4.heap.size _).mono ?_
  rintro e w7 ⟨rfl, hw7⟩
  obtain ⟨w6, hw6⟩ : ∃ w6, w6 = w4.alloc (.cells #[.int .i64 0, .slice none 0 0, .int .i64 10] 36) := ⟨_, rfl⟩
  have hw7' : w7 = w6.alloc (.cells #[.pointer (some ⟨c4.bg, 0, none⟩), .iface 31 (.pointer (some ⟨w4.heap.size, 0, none⟩)), .slice none 0 0, .int .i64 0, .slice none 0 0] 71) := by rw [hw6, HB4.out]; exact hw7
  obtain ⟨q, hqk, hqs, hK, _⟩ := KL.new HL4.out 10 hw6 hw7'
  have hli := klit_any hK.kn (by decide) (by decide) (by decide) 7 (by decide)
  have s6 : w6.heap.size = w4.heap.size + 1 := by rw [hw6]; simp
  have hx : bits .xor .u32 6 1 = 7 := by decide +kernel
  have HLI : Hid (Calls Try.prog 10 #[.pointer (some ⟨w4.heap.size + 1, 0, none⟩), .int .u32 7] w7 fun e w' => ∃ v : Nat, 1 ≤ v ∧ v ≤ 3 ∧ e = .returned (.tuple #[.int .i32 (-(v : Int)), .int .i64 0]) ∧ Hid (∃ A cc, w'.cell? ⟨w4.heap.size, 0, none⟩ = some (.int .i64 3) ∧ w'.cell? ⟨w4.heap.size, 1, none⟩ = some (.slice A 3 cc)) ∧
      Hid (Calls Try.prog 20 #[.pointer (some ⟨w4.heap.size + 1, 0, none⟩)] w' fun r w2 => r = .returned (.int .i64 3) ∧ w' = w2) ∧ Hid (Calls Try.prog 16 #[.pointer (some ⟨w4.heap.size + 1, 0, none⟩), .int .i64 3] w' fun r w2 => r = .returned (.int .i64 (v : Int)) ∧ w' = w2) ∧ Hid (Below w.heap.size w w')) := by
    rw [hqk, s6] at hli
    refine hli.mono ?_
    rintro e w8 ⟨q2, D, rfl, k2, t2, h3, _, hr⟩
    rw [List.nil_append] at k2 h3 ⊢
    have h3 : 3 ∈ D := h3
    obtain ⟨l3, lc⟩ := ex_facts k2.ok h3 hr
    have hK2 := hK.to k2 t2
    have hv := vr_le D 3
    have hv1 := vr_pos.2 h3
    obtain ⟨s0, s1⟩ := hK2.sink
    have hkn := k2.known_
    have hva := k2.var_ (by decide) 3 (by omega)
    rw [t2.bk, hqk, s6] at hkn hva
    rw [t2.bs, hqs, l3] at s0
    rw [t2.bs, hqs, lc] at s1
    rw [l3] at hkn
    exact ⟨vr D 3, by omega, by omega, by unfold lt; rfl, ⟨_, _, s0, s1⟩, hkn, hva, hK2.lv.be⟩
  clear hK hli hqk hqs hw7 hw7' hw6 s6 HL4 HB4
  go_wp2_with fail
  refine HLI.out.mono ?_
  rintro e w8 ⟨v, hv1, hv3, rfl, HC, HKN, HVA, HB⟩
  obtain ⟨A, cc, s0, s1⟩ := HC.out
  have tv : decide (-(v : Int) < 0) = true := decide_eq_true (by omega)
  clear HLI HC
  go_wp2_with fail
  refine HKN.out.mono ?_
  rintro e w' ⟨rfl, rfl⟩
  go_wp2_with fail
  refine HVA.out.mono ?_
  rintro e w' ⟨rfl, rfl⟩
  go_wp2_with fail
  go_ret
  exact ⟨by simp, HB.out⟩
end Go.Proofs.Ytmiifhclcknhdaa
