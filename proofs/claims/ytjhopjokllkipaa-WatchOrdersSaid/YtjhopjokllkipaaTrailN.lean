/- The contracts of a trail's New and Grow. -/
import Derived.Test.YtjhopjokllkipaaTrailS
namespace Go.Proofs.Ytjhopjokllkipaa
open Go.RowKit LitM TrailM

/-- What New leaves. -/
def NewTPost (n : Nat) (w : World) (e : Ending) (w' : World) : Prop := ∃ b F, e = .returned (.pointer (some ⟨b, 0, none⟩)) ∧ TrailAt w' b F n 0 [] ∧ (∀ k, F k → w.heap.size ≤ k) ∧ Below w.heap.size w w'
theorem mkC_nil (j : Nat) : mkC [] j = (#[Value.int .i32 0, .int .i64 0, .int .i64 0] : Array Value)[j % 3]! := by
  have h : ∀ v, mkH [] v = 0 ∧ mkV [] v = 0 ∧ mkR [] v = 0 := fun v => mk_none rfl
  unfold mkC
  rw [(h _).1, (h _).2.1, (h _).2.2]
  rcases (show j % 3 = 0 ∨ j % 3 = 1 ∨ j % 3 = 2 by omega) with e | e | e <;> rw [e] <;> rfl
theorem new_of {n : Nat} (hn : n ≤ 100000) {C : Array Value} (w : World) (h : C.size = (n + 1) * 3) (hf : ∀ j, j < (n + 1) * 3 → C[j]? = some ((Value.agg #[.int .i32 0, .int .i64 0, .int .i64 0]).cells[j % 3]!)) :
    NewTPost n w (.returned (.pointer (some ⟨w.heap.size + 1, 0, none⟩))) ((w.alloc (.cells C 76)).alloc (.cells #[.slice (some ⟨w.heap.size, 0, none⟩) (n + 1) (n + 1), .slice none 0 0, .slice none 0 0] 79)) := by
  have hr : RowV 76 3 (w.alloc (.cells C 76)) w.heap.size (n + 1) (n + 1) (mkC []) :=
    RowV.made (by omega) h fun j hj => by rw [hf j hj, mkC_nil]; rfl
  have hsz : (w.alloc (.cells C 76)).heap.size = w.heap.size + 1 := by simp
  refine ⟨w.heap.size + 1, FootT (w.heap.size + 1) w.heap.size none none, rfl, ⟨w.heap.size, n + 1, none, 0, none, 0, ⟨?_, hr.alloc _, SlV.nil _ _ _ _, SlV.nil _ _ _ _, by omega, onB_none _, onB_none _, onB_none _, onB_none _, fun k hk => absurd hk (onB_none k)⟩, Ok.nil n, rfl⟩, ?_, ((Below.refl _ _).alloc (Nat.le_refl _) _).alloc (by simp) _⟩
  · rw [← hsz]; exact blk_new _ _
  · rintro k (e | e | e | e)
    · omega
    · omega
    · exact absurd e (onB_none k)
    · exact absurd e (onB_none k)
set_option maxHeartbeats 1600000 in
set_option maxRecDepth 100000 in
theorem tnew_pos (n : Nat) (w : World) (h1 : 1 ≤ n) (hn : n ≤ 100000) : Calls Try.prog 28 #[.int .i64 (n : Int)] w (NewTPost n w) := by
  obtain ⟨C, c1, c2, hm⟩ := make_sl (P := Try.prog) 77 76 Try.underlying77 info_mark rfl (by decide) (by decide) (n + 1) (by omega)
  rw [show ((n + 1 : Nat) : Int) = 1 + (n : Int) from by omega] at hm
  have HE := Lib.hid (new_of hn w c1 c2)
  have m1 : max (n : Int) 0 = n := by omega
  have m2 : min (n : Int) 262144 = n := by omega
  clear c1 c2
  go_enter Try.func28, Try.ntmps28
  go_wp2
  go_ret
  exact HE.out
set_option maxHeartbeats 1600000 in
set_option maxRecDepth 100000 in
theorem tnew_zero (v : Int) (w : World) (hv : v ≤ 0) : Calls Try.prog 28 #[.int .i64 v] w (NewTPost 0 w) := by
  obtain ⟨C, c1, c2, hm⟩ := make_sl (P := Try.prog) 77 76 Try.underlying77 info_mark rfl (by decide) (by decide) 1 (by omega)
  rw [show ((1 : Nat) : Int) = 1 from rfl] at hm
  have HE := Lib.hid (new_of (n := 0) (by omega) w c1 c2)
  clear c1 c2
  by_cases h0 : v = 0
  · subst h0
    go_enter Try.func28, Try.ntmps28
    go_wp2
    go_ret
    exact HE.out
  · have h1 : v < 0 := by omega
    clear h0 hv
    go_enter Try.func28, Try.ntmps28
    go_wp2
    go_ret
    exact HE.out
theorem tnew_any (v : Int) (w : World) (hv : v ≤ 100000) : Calls Try.prog 28 #[.int .i64 v] w (NewTPost v.toNat w) := by
  by_cases h : v ≤ 0
  · rw [show v.toNat = 0 from by omega]; exact tnew_zero v w h
  · obtain ⟨n, rfl⟩ := Int.eq_ofNat_of_zero_le (show 0 ≤ v by omega)
    exact tnew_pos n w (by omega) (by omega)

theorem mkC_grow {n d : Nat} {L : List Ent} (hO : Pre n d L) (j : Nat) (hj : j < (n + 1 + 1) * 3) : mkC L j = appV (mkC L) ((n + 1) * 3) [.int .i32 0, .int .i64 0, .int .i64 0] j := by
  unfold appV
  by_cases e : j < (n + 1) * 3
  · rw [if_pos e]
  · rw [if_neg e]
    have hq : j / 3 = n + 1 := by omega
    have hf : findE L ((j / 3 : Nat) : Int) = none := hO.out (.inr (by omega))
    obtain ⟨z0, z1, z2⟩ := mk_none hf
    unfold mkC
    rw [z0, z1, z2]
    rcases (show j = (n + 1) * 3 ∨ j = (n + 1) * 3 + 1 ∨ j = (n + 1) * 3 + 2 by omega) with q | q | q <;> subst q
    · rw [if_pos (by omega), Nat.sub_self]; rfl
    · rw [if_neg (by omega), if_pos (by omega), show (n + 1) * 3 + 1 - (n + 1) * 3 = 1 from by omega]; rfl
    · rw [if_neg (by omega), if_neg (by omega), show (n + 1) * 3 + 2 - (n + 1) * 3 = 2 from by omega]; rfl
set_option maxHeartbeats 6400000 in
set_option maxRecDepth 100000 in
theorem tgrow_any {b n d : Nat} {F : Nat → Prop} {L : List Ent} (w : World) (h : TrailAt w b F n d L) (hn : n ≤ 90000) :
    Calls Try.prog 23 #[.pointer (some ⟨b, 0, none⟩)] w fun e w' => e = .returned (.int .i64 ((n : Int) + 1)) ∧ TrailTo F w w' b (n + 1) d L := by
  obtain ⟨gm, cm, ao, co, az, cs, hQ, hO, rfl⟩ := h
  have HV := Lib.hid (tvars_nat w hQ (by omega))
  have c0 := hQ.h0
  have hb := hQ.lt
  have hbm : b ≠ gm := hQ.ne.1
  have HQ := Lib.hid hQ
  have HO := Lib.hid hO
  have HR : Hid (SlV 76 3 (w.alloc (.cells #[.int .i32 0, .int .i64 0, .int .i64 0] 76)) (some ⟨gm, 0, none⟩) (n + 1) cm (mkC L)) := .inr ⟨gm, rfl, hQ.mks.alloc _⟩
  have t1 : ((n : Int) == 262144) = false := by rw [beq_eq_false_iff_ne]; omega
  clear hQ hO
  go_enter Try.func23, Try.ntmps23
  go_wp2_with fail
  refine HV.out.mono ?_
  rintro e w' ⟨rfl, rfl⟩
  clear HV
  go_wp2_with (at_builtin; refine wpList_append_sl _ rfl _ _ 77 76 rfl Try.underlying77 info_mark rfl (by decide) (by decide) (some ⟨gm, 0, none⟩) (n + 1) cm _ rfl HR.out (by omega) ⟨w.heap.size, 0, none⟩ 1 1 [.int .i32 0, .int .i64 0, .int .i64 0] rfl rfl (box_news w 76 [.int .i32 0, .int .i64 0, .int .i64 0]) (by intro u hu; simp at hu; rcases hu with rfl | rfl <;> rfl) (by decide) (by decide) ?_)
  intro g' c' w2 hr hg hk
  have hk2 := hk (fun k => k = gm) (fun j hj => (onB_some _ _).1 hj)
  have hr2 : RowV 76 3 w2 g' (n + 1 + 1) c' (mkC L) := hr.congr fun j hj => mkC_grow HO.out.pre j hj
  have HT := Lib.hid (HQ.out.pushM (o := .cells #[.int .i32 0, .int .i64 0, .int .i64 0] 76) hr2 (by simpa using hg) hk2)
  have hsz : (w.alloc (.cells #[.int .i32 0, .int .i64 0, .int .i64 0] 76)).heap.size = w.heap.size + 1 := by simp
  have HE : Hid (TrailTo (FootT b gm ao az) w (w2.setCell ⟨b, 0, none⟩ (.slice (some ⟨g', 0, none⟩) (n + 1 + 1) c')) b (n + 1) d L) := by
    refine ⟨FootT b g' ao az, ⟨g', c', ao, co, az, cs, HT.out, HO.out.grow, rfl⟩, ?_, (((Kf.refl _ _).alloc _).trans hk2 (fun k e => .inl (.inr (.inl e)))).set (.inl (.inl rfl)) _⟩
    rintro k (e | e | e | e)
    · exact .inl (.inl e)
    · subst e
      rcases hg with x | x
      · exact .inl (.inr (.inl ((onB_some _ _).1 x)))
      · exact .inr (by omega)
    · exact .inl (.inr (.inr (.inl e)))
    · exact .inl (.inr (.inr (.inr e)))
  have hbk : w2.heap[b]? = w.heap[b]? := (hk2.block b (by simp; omega) hbm).trans (Below.heap_alloc _ _ _ hb)
  have d0 : w2.cell? ⟨b, 0, none⟩ = some (.slice (some ⟨gm, 0, none⟩) (n + 1) cm) := by rw [World.cell?_of_block (w := w) (a := ⟨b, 0, none⟩) hbk]; exact c0
  have f0 : w2.frozen? ⟨b, 0, none⟩ = false := by rw [World.frozen?_of_block (w := w) (a := ⟨b, 0, none⟩) hbk]; exact HQ.out.free 0
  have HV := Lib.hid (tvars_nat (n := n + 1) _ HT.out (by omega))
  clear hr hr2 hg hk hk2 hsz hbk c0 HR hb hbm
  go_wp2_with fail
  refine HV.out.mono ?_
  rintro e w' ⟨rfl, rfl⟩
  go_wp2_with fail
  go_ret
  exact ⟨ret_int (by omega), HE.out⟩
end Go.Proofs.Ytjhopjokllkipaa
