/- The operations on numbers: Add, Sub, Times, Equal, Choose, Less. -/
import Derived.Test.YtelpoocgmflofaaVecF
namespace Go.Proofs.Ytelpoocgmflofaa
open Go.RowKit GatM VecM

theorem VecTo.pre {B : Nat} {w0 w w1 w2 : World} {c : GrC} {gs : Gs} {n K : Nat} {C : Prop} {F : List Bool → Int} {e : Ending} (hb : Below w.heap.size w w1) (h : VecTo B w0 w1 c gs n K C F e w2) : VecTo B w0 w c gs n K C F e w2 := by
  obtain ⟨g, cp, l, gs', c', h1, h2, h3, h4, h5, h6⟩ := h
  exact ⟨g, cp, l, gs', c', h1, h2, h3, h4.pre hb, h5, Nat.le_trans hb.size h6⟩
theorem EdgeTo.pre {B : Nat} {w0 w w1 w2 : World} {c : GrC} {gs : Gs} {K : Nat} {C : Prop} {F : List Bool → Bool} {e : Ending} (hb : Below w.heap.size w w1) (h : EdgeTo B w0 w1 c gs K C F e w2) : EdgeTo B w0 w c gs K C F e w2 := by
  obtain ⟨r, gs', c', h1, h2, h3⟩ := h
  exact ⟨r, gs', c', h1, h2, h3.pre hb⟩
/-- What an operation answers: a number, and that nothing is wrong. -/
def Vec2To (B : Nat) (w0 w : World) (c : GrC) (gs : Gs) (n K : Nat) (C : Prop) (F : List Bool → Int) (e : Ending) (w' : World) : Prop :=
  ∃ v, e = .returned (.tuple #[v, .int .i64 0]) ∧ VecTo B w0 w c gs n K C F (.returned v) w'
def Edge2To (B : Nat) (w0 w : World) (c : GrC) (gs : Gs) (K : Nat) (C : Prop) (F : List Bool → Bool) (e : Ending) (w' : World) : Prop :=
  ∃ v, e = .returned (.tuple #[v, .int .i64 0]) ∧ EdgeTo B w0 w c gs K C F (.returned v) w'
theorem VecTo.mono {B : Nat} {w0 w w2 : World} {c : GrC} {gs : Gs} {n K K' : Nat} {C C' : Prop} {F F' : List Bool → Int} {e : Ending} (h : VecTo B w0 w c gs n K C F e w2) (hK : K ≤ K') (hC : C' → C) (hF : ∀ vals, F vals = F' vals) : VecTo B w0 w c gs n K' C' F' e w2 := by
  obtain ⟨g, cp, l, gs', c', h1, h2, h3, h4, h5, h6⟩ := h
  exact ⟨g, cp, l, gs', c', h1, h2, h3.congr hK hC hF, h4, h5, h6⟩
section
variable {B : Nat} {w0 w : World} {c : GrC} {gs : Gs}
/-- Of two numbers with nothing wrong. -/
theorem vbeg2 (h : LvG B w0 w c gs) {A D : Option Addr} {n m cn cm : Nat} {la lb : List Nat} (hla : VcAt w c A n la) (hlb : VcAt w c D m lb) (hia : AllIn gs la) (hib : AllIn gs lb) (hn : n ≤ 32) (hm : m ≤ 32) (hg : gs.length ≤ 80000) (wd : Nat) (hw : fitN wd) :
    Calls Try.prog 33 #[.pointer (some ⟨c.bg, 0, none⟩), .int .i64 (wd : Int), .slice (some ⟨w.heap.size, 0, none⟩) 2 2] (w.alloc (.cells #[.slice A n cn, .slice D m cm] 27)) fun e w' => ∃ b, e = .returned (.tuple #[.pointer (some ⟨b, 0, none⟩), .int .i64 0]) ∧ Below w.heap.size w w' ∧ VMk w' c b := by
  have hb : Below w.heap.size w (w.alloc (.cells #[.slice A n cn, .slice D m cm] 27)) := (Below.refl _ _).alloc (Nat.le_refl _) _
  have c2 : ∀ {P : Nat → Prop}, P 0 → P 1 → ∀ j, j < 2 → P j := fun h0 h1 j hj => by
    rcases (show j = 0 ∨ j = 1 by omega) with e | e <;> subst e <;> assumption
  have hpa := hla.pos
  have hpb := hlb.pos
  refine (vbegin_any (h.at_.below hb) wd 2 w.heap.size (fun j => if j = 0 then A else D) (fun j => if j = 0 then n else m) (fun j => if j = 0 then cn else cm) (fun j => if j = 0 then la else lb) (by omega) (by simp) (c2 (by show n ≤ 1000; omega) (by show m ≤ 1000; omega))
    (c2 (by rw [Lib.cell_of_heap (blk_new w _)]; rfl) (by rw [Lib.cell_of_heap (blk_new w _)]; rfl)) (c2 (hla.below hb).rd (hlb.below hb).rd) (c2 (AllIn.sml hia (by omega)) (AllIn.sml hib (by omega))) 0 (fun _ _ _ => rfl) (fun _ _ ⟨j, hj, i, hi, hbad⟩ => ?_) (fun hbad => ?_)).mono ?_
  · exfalso
    rcases (show j = 0 ∨ j = 1 by omega) with e | e
    · subst e
      exact hbad (hia _ (nmem.2 ⟨i, by rw [hla.len]; exact hi, rfl⟩))
    · subst e
      exact hbad (hib _ (nmem.2 ⟨i, by rw [hlb.len]; exact hi, rfl⟩))
  · exfalso
    rcases hbad with ⟨j, hj, hbad⟩ | ⟨_, hbad⟩
    · rcases (show j = 0 ∨ j = 1 by omega) with e | e
      · subst e; exact hbad ⟨hpa, hn⟩
      · subst e; exact hbad ⟨hpb, hm⟩
    · exact hbad hw
  · rintro e w' ⟨p, rfl, hb2, hy, _⟩
    obtain ⟨b, rfl, hm2, _⟩ := hy rfl
    exact ⟨b, rfl, hb.trans (hb2.mono hb.size), hm2⟩
set_option maxHeartbeats 1600000 in
set_option maxRecDepth 100000 in
theorem vadd_any (h : LvG B w0 w c gs) {A D : Option Addr} {n m cn cm : Nat} {la lb : List Nat} (hla : VcAt w c A n la) (hlb : VcAt w c D m lb) (hia : AllIn gs la) (hib : AllIn gs lb) (hn : n ≤ 31) (hm : m ≤ 31) (hg : gs.length ≤ 30000) :
    Calls Try.prog 12 #[.pointer (some ⟨c.bg, 0, none⟩), .slice A n cn, .slice D m cm] w (Vec2To B w0 w c gs (max n m + 1) 512 (Cst la ∧ Cst lb) fun vals => valE vals gs la + valE vals gs lb) := by
  obtain ⟨M, hM⟩ : ∃ M, M = max n m := ⟨_, rfl⟩
  have hMM : max (n : Int) (m : Int) = (M : Int) := by omega
  rw [← hM]
  have hbg : Calls Try.prog 33 #[.pointer (some ⟨c.bg, 0, none⟩), .int .i64 ((M : Int) + 1), .slice (some ⟨w.heap.size, 0, none⟩) 2 2] (w.alloc (.cells #[.slice A n cn, .slice D m cm] 27)) fun e w' => ∃ b, e = .returned (.tuple #[.pointer (some ⟨b, 0, none⟩), .int .i64 0]) ∧ Below w.heap.size w w' ∧ VMk w' c b := by
    have := vbeg2 h hla hlb hia hib (cn := cn) (cm := cm) (by omega) (by omega) (by omega) (M + 1) (by have := hla.pos; exact ⟨by omega, by omega⟩)
    rwa [show ((M + 1 : Nat) : Int) = (M : Int) + 1 by omega] at this
  have HS : Hid (∀ w' b, Below w.heap.size w w' → VMk w' c b → Calls Try.prog 35 #[.pointer (some ⟨b, 0, none⟩), .slice A n cn, .slice D m cm] w' (VecTo B w0 w' c gs (M + 1) (16 * (M + 1)) (Cst la ∧ Cst lb) fun vals => valE vals gs la + valE vals gs lb)) := fun w' b hb hmk => by
    have := vsum_any (h.below hb) hmk (cn := cn) (cm := cm) (hla.below hb) (hlb.below hb) hia hib (by omega) (by omega) (by omega)
    rwa [← hM] at this
  have HBG := Lib.hid hbg
  have hM31 : M ≤ 31 := by omega
  clear h hla hlb hia hib hg hbg hn hm hM
  go_enter Try.func12, Try.ntmps12
  go_wp2_with fail
  refine HBG.out.mono ?_
  rintro e w1 ⟨b, rfl, hb, hmk⟩
  have HB := Lib.hid hb
  have HK := Lib.hid hmk
  have HC := Lib.hid (HS.out w1 b hb hmk)
  clear hb hmk HBG HS
  go_wp2_with fail
  refine HC.out.mono ?_
  rintro e w2 ⟨g, cp, l, gs', c', rfl, h1, h2, h3, h4, h5⟩
  have HV := Lib.hid (vvec_any (HK.out.to h3) (.slice (some ⟨g, 0, none⟩) (M + 1) cp))
  have HE : Hid (Vec2To B w0 w c gs (M + 1) 512 (Cst la ∧ Cst lb) (fun vals => valE vals gs la + valE vals gs lb) (.returned (.tuple #[.slice (some ⟨g, 0, none⟩) (M + 1) cp, .int .i64 0])) w2) :=
    ⟨_, rfl, VecTo.pre HB.out (VecTo.mono ⟨g, cp, l, gs', c', rfl, h1, h2, h3, h4, h5⟩ (by omega) (fun q => q) (fun _ => rfl))⟩
  clear h1 h2 h3 h4 h5 HC HK
  go_wp2_with fail
  refine HV.out.mono ?_
  rintro e w3 ⟨rfl, rfl⟩
  go_wp2_with fail
  go_ret2
  exact HE.out
set_option maxHeartbeats 1600000 in
set_option maxRecDepth 100000 in
theorem vsub_any (h : LvG B w0 w c gs) {A D : Option Addr} {n m cn cm : Nat} {la lb : List Nat} (hla : VcAt w c A n la) (hlb : VcAt w c D m lb) (hia : AllIn gs la) (hib : AllIn gs lb) (hn : n ≤ 31) (hm : m ≤ 31) (hg : gs.length ≤ 30000) :
    Calls Try.prog 24 #[.pointer (some ⟨c.bg, 0, none⟩), .slice A n cn, .slice D m cm] w (Vec2To B w0 w c gs (max n m + 1) 512 (Cst la ∧ Cst lb) fun vals => valE vals gs la - valE vals gs lb) := by
  obtain ⟨M, hM⟩ : ∃ M, M = max n m := ⟨_, rfl⟩
  have hMM : max (n : Int) (m : Int) = (M : Int) := by omega
  rw [← hM]
  have hbg : Calls Try.prog 33 #[.pointer (some ⟨c.bg, 0, none⟩), .int .i64 ((M : Int) + 1), .slice (some ⟨w.heap.size, 0, none⟩) 2 2] (w.alloc (.cells #[.slice A n cn, .slice D m cm] 27)) fun e w' => ∃ b, e = .returned (.tuple #[.pointer (some ⟨b, 0, none⟩), .int .i64 0]) ∧ Below w.heap.size w w' ∧ VMk w' c b := by
    have := vbeg2 h hla hlb hia hib (cn := cn) (cm := cm) (by omega) (by omega) (by omega) (M + 1) (by have := hla.pos; exact ⟨by omega, by omega⟩)
    rwa [show ((M + 1 : Nat) : Int) = (M : Int) + 1 by omega] at this
  have HS : Hid (∀ w' b, Below w.heap.size w w' → VMk w' c b → Calls Try.prog 47 #[.pointer (some ⟨b, 0, none⟩), .slice A n cn, .slice D m cm] w' (VecTo B w0 w' c gs (M + 1) (16 * (M + 1)) (Cst la ∧ Cst lb) fun vals => valE vals gs la - valE vals gs lb)) := fun w' b hb hmk => by
    have := vdiff_any (h.below hb) hmk (cn := cn) (cm := cm) (hla.below hb) (hlb.below hb) hia hib (by omega) (by omega) (by omega)
    rwa [← hM] at this
  have HBG := Lib.hid hbg
  have hM31 : M ≤ 31 := by omega
  clear h hla hlb hia hib hg hbg hn hm hM
  go_enter Try.func24, Try.ntmps24
  go_wp2_with fail
  refine HBG.out.mono ?_
  rintro e w1 ⟨b, rfl, hb, hmk⟩
  have HB := Lib.hid hb
  have HK := Lib.hid hmk
  have HC := Lib.hid (HS.out w1 b hb hmk)
  clear hb hmk HBG HS
  go_wp2_with fail
  refine HC.out.mono ?_
  rintro e w2 ⟨g, cp, l, gs', c', rfl, h1, h2, h3, h4, h5⟩
  have HV := Lib.hid (vvec_any (HK.out.to h3) (.slice (some ⟨g, 0, none⟩) (M + 1) cp))
  have HE : Hid (Vec2To B w0 w c gs (M + 1) 512 (Cst la ∧ Cst lb) (fun vals => valE vals gs la - valE vals gs lb) (.returned (.tuple #[.slice (some ⟨g, 0, none⟩) (M + 1) cp, .int .i64 0])) w2) :=
    ⟨_, rfl, VecTo.pre HB.out (VecTo.mono ⟨g, cp, l, gs', c', rfl, h1, h2, h3, h4, h5⟩ (by omega) (fun q => q) (fun _ => rfl))⟩
  clear h1 h2 h3 h4 h5 HC HK
  go_wp2_with fail
  refine HV.out.mono ?_
  rintro e w3 ⟨rfl, rfl⟩
  go_wp2_with fail
  go_ret2
  exact HE.out
theorem prod_len {n m : Nat} (hn : n ≤ 32) (hm : m ≤ 32) : m * (18 * (n + 1)) ≤ 19008 := by
  have := Nat.mul_le_mul hm (show 18 * (n + 1) ≤ 594 by omega)
  omega
set_option maxHeartbeats 1600000 in
set_option maxRecDepth 100000 in
theorem vtimes_any (h : LvG B w0 w c gs) {A D : Option Addr} {n m cn cm : Nat} {la lb : List Nat} (hla : VcAt w c A n la) (hlb : VcAt w c D m lb) (hia : AllIn gs la) (hib : AllIn gs lb) (hnm : n + m ≤ 32) (hg : gs.length ≤ 30000) (K : Nat) (hK1 : m * (18 * (n + 1)) ≤ K) (hK2 : n * (18 * (m + 1)) ≤ K) :
    Calls Try.prog 25 #[.pointer (some ⟨c.bg, 0, none⟩), .slice A n cn, .slice D m cm] w (Vec2To B w0 w c gs (n + m) K (Cst la ∧ Cst lb) fun vals => valE vals gs la * valE vals gs lb) := by
  have hbg : Calls Try.prog 33 #[.pointer (some ⟨c.bg, 0, none⟩), .int .i64 ((n : Int) + (m : Int)), .slice (some ⟨w.heap.size, 0, none⟩) 2 2] (w.alloc (.cells #[.slice A n cn, .slice D m cm] 27)) fun e w' => ∃ b, e = .returned (.tuple #[.pointer (some ⟨b, 0, none⟩), .int .i64 0]) ∧ Below w.heap.size w w' ∧ VMk w' c b := by
    have := vbeg2 h hla hlb hia hib (cn := cn) (cm := cm) (by omega) (by omega) (by omega) (n + m) (by have := hla.pos; exact ⟨by omega, by omega⟩)
    rwa [Int.natCast_add] at this
  have HS : Hid (∀ w' b, Below w.heap.size w w' → VMk w' c b → Calls Try.prog 48 #[.pointer (some ⟨b, 0, none⟩), .slice A n cn, .slice D m cm] w' (VecTo B w0 w' c gs (n + m) K (Cst la ∧ Cst lb) fun vals => valE vals gs la * valE vals gs lb) ∧ Calls Try.prog 48 #[.pointer (some ⟨b, 0, none⟩), .slice D m cm, .slice A n cn] w' (VecTo B w0 w' c gs (n + m) K (Cst la ∧ Cst lb) fun vals => valE vals gs la * valE vals gs lb)) := fun w' b hb hmk => by
    refine ⟨?_, ?_⟩
    · have := vprod_any (h.below hb) hmk (cn := cn) (cm := cm) (hla.below hb) (hlb.below hb) hia hib (by omega) (by omega) (by omega)
      rw [Nat.add_comm m n] at this
      exact this.mono fun e w2 q => VecTo.mono q hK1 (fun q => q) (fun _ => rfl)
    · have := vprod_any (h.below hb) hmk (cn := cm) (cm := cn) (hlb.below hb) (hla.below hb) hib hia (by omega) (by omega) (by omega)
      exact this.mono fun e w2 q => VecTo.mono q hK2 (fun q => ⟨q.2, q.1⟩) (fun _ => Int.mul_comm _ _)
  have HBG := Lib.hid hbg
  clear h hla hlb hia hib hg hbg
  go_enter Try.func25, Try.ntmps25
  go_wp2_with fail
  refine HBG.out.mono ?_
  rintro e w1 ⟨b, rfl, hb, hmk⟩
  have HB := Lib.hid hb
  have HK := Lib.hid hmk
  obtain ⟨hc1, hc2⟩ := HS.out w1 b hb hmk
  have HC1 := Lib.hid hc1
  have HC2 := Lib.hid hc2
  clear hb hmk HBG HS hc1 hc2
  by_cases hlt : n < m
  · have t1 : decide ((n : Int) < (m : Int)) = true := decide_eq_true (by omega)
    have t2 : decide (n < m) = true := decide_eq_true hlt
    go_wp2_with fail
    refine HC2.out.mono ?_
    rintro e w2 ⟨g, cp, l, gs', c', rfl, h1, h2, h3, h4, h5⟩
    have HV := Lib.hid (vvec_any (HK.out.to h3) (.slice (some ⟨g, 0, none⟩) (n + m) cp))
    have HE : Hid (Vec2To B w0 w c gs (n + m) K (Cst la ∧ Cst lb) (fun vals => valE vals gs la * valE vals gs lb) (.returned (.tuple #[.slice (some ⟨g, 0, none⟩) (n + m) cp, .int .i64 0])) w2) :=
      ⟨_, rfl, VecTo.pre HB.out ⟨g, cp, l, gs', c', rfl, h1, h2, h3, h4, h5⟩⟩
    clear h1 h2 h3 h4 h5 HC1 HC2 HK
    go_wp2_with fail
    refine HV.out.mono ?_
    rintro e w3 ⟨rfl, rfl⟩
    go_wp2_with fail
    go_ret2
    exact HE.out
  · have t1 : decide ((n : Int) < (m : Int)) = false := decide_eq_false (by omega)
    have t2 : decide (n < m) = false := decide_eq_false hlt
    go_wp2_with fail
    refine HC1.out.mono ?_
    rintro e w2 ⟨g, cp, l, gs', c', rfl, h1, h2, h3, h4, h5⟩
    have HV := Lib.hid (vvec_any (HK.out.to h3) (.slice (some ⟨g, 0, none⟩) (n + m) cp))
    have HE : Hid (Vec2To B w0 w c gs (n + m) K (Cst la ∧ Cst lb) (fun vals => valE vals gs la * valE vals gs lb) (.returned (.tuple #[.slice (some ⟨g, 0, none⟩) (n + m) cp, .int .i64 0])) w2) :=
      ⟨_, rfl, VecTo.pre HB.out ⟨g, cp, l, gs', c', rfl, h1, h2, h3, h4, h5⟩⟩
    clear h1 h2 h3 h4 h5 HC1 HC2 HK
    go_wp2_with fail
    refine HV.out.mono ?_
    rintro e w3 ⟨rfl, rfl⟩
    go_wp2_with fail
    go_ret2
    exact HE.out
end
end Go.Proofs.Ytelpoocgmflofaa
