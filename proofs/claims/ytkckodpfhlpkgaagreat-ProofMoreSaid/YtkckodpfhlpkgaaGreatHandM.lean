/- The key of a clause: four bytes of each literal; the contract of key. A hand in memory: the clauses at hand, by their keys; what its steps leave, in plain words. -/
import Derived.Test.YtkckodpfhlpkgaaGreatCnfR
import Derived.Test.YtkckodpfhlpkgaaGreatPrfM
import Derived.Laws.IdiomStrings
import Derived.Test.YtkckodpfhlpkgaaGreatTeamN
import Derived.Test.YtkckodpfhlpkgaaGreatTeamF
import Derived.Maps.OwnSet
import Derived.Maps.OwnOps
namespace Go.Proofs.YtkckodpfhlpkgaaGreat
open Go.RowKit LitM TrailM EngM

theorem info_byte : (Tryz.prog.info? 5).map (fun i => (i.zero, i.size, i.bytes)) = some (some (.int .u8 0), 1, 1) := by kernel_rfl
/-- A number's lowest byte. -/
def b8 (x : Int) : UInt8 := UInt8.ofNat (x % 256).toNat
theorem b8_nat (x : Int) : ((b8 x).toNat : Int) = x % 256 := by
  unfold b8
  have h1 : 0 ≤ x % 256 := Int.emod_nonneg _ (by omega)
  have h2 : x % 256 < 256 := Int.emod_lt_of_pos _ (by omega)
  rw [UInt8.toNat_ofNat']
  omega
theorem b8_inj {x y : Int} (h : b8 x = b8 y) : x % 256 = y % 256 := by rw [← b8_nat, ← b8_nat, h]
def byteK (l : Int) : List UInt8 := [b8 l, b8 (l / 256), b8 (l / 65536), b8 (l / 16777216)]
/-- A clean clause's key. -/
def keyL (ys : List Int) : List UInt8 := ys.flatMap byteK
theorem keyL_len (ys : List Int) : (keyL ys).length = 4 * ys.length := by
  induction ys with
  | nil => rfl
  | cons y ys ih =>
    show (byteK y ++ keyL ys).length = _
    rw [List.length_append, ih, List.length_cons]
    show 4 + _ = _
    omega
theorem byteK_inj {l m : Int} (hl : -2147483648 ≤ l ∧ l ≤ 2147483647) (hm : -2147483648 ≤ m ∧ m ≤ 2147483647) (h : byteK l = byteK m) : l = m := by
  unfold byteK at h
  simp only [List.cons.injEq, and_true] at h
  obtain ⟨h1, h2, h3, h4⟩ := h
  have h1 := b8_inj h1
  have h2 := b8_inj h2
  have h3 := b8_inj h3
  have h4 := b8_inj h4
  omega
theorem keyL_inj : ∀ {ys zs : List Int}, In32 ys → In32 zs → keyL ys = keyL zs → ys = zs
  | [], [], _, _, _ => rfl
  | [], z :: zs, _, _, h => by have := congrArg List.length h; rw [keyL_len, keyL_len] at this; simp at this
  | y :: ys, [], _, _, h => by have := congrArg List.length h; rw [keyL_len, keyL_len] at this; simp at this
  | y :: ys, z :: zs, h1, h2, h => by
    have h : byteK y ++ keyL ys = byteK z ++ keyL zs := h
    obtain ⟨a, b⟩ := List.append_inj h rfl
    have e1 := byteK_inj (h1 0) (h2 0) a
    have e1 : y = z := e1
    have e2 := keyL_inj (fun j => h1 (j + 1)) (fun j => h2 (j + 1)) b
    rw [e1, e2]
theorem keyL_get : ∀ (ys : List Int) (k i : Nat), k < ys.length → i < 4 → (keyL ys).getD (4 * k + i) 0 = (byteK (ys.getD k 0)).getD i 0
  | [], k, i, h, _ => by simp at h
  | y :: ys, 0, i, _, hi => by
    show (byteK y ++ keyL ys).getD (4 * 0 + i) 0 = (byteK y).getD i 0
    rw [Nat.mul_zero, Nat.zero_add, List.getD, List.getD, List.getElem?_append_left (by exact hi)]
  | y :: ys, k + 1, i, h, hi => by
    show (byteK y ++ keyL ys).getD (4 * (k + 1) + i) 0 = (byteK (ys.getD k 0)).getD i 0
    rw [← keyL_get ys k i (by simpa using h) hi, List.getD, List.getD, List.getElem?_append_right (by show 4 ≤ _; omega)]
    show (keyL ys)[4 * (k + 1) + i - 4]?.getD 0 = _
    rw [show 4 * (k + 1) + i - 4 = 4 * k + i by omega]
/-- What a text of a key reads. -/
def keyV (ys : List Int) (j : Nat) : Value := .int .u8 (((keyL ys).getD j 0).toNat : Int)
theorem keyV_app (ys : List Int) {k : Nat} (hk : k < ys.length) {f : Nat → Value} (hf : ∀ j, j < 4 * k → f j = keyV ys j) (j : Nat) (hj : j < 4 * k + 4) :
    appV f (4 * k) [.int .u8 (ys.getD k 0 % 256), .int .u8 (ys.getD k 0 / 256 % 256), .int .u8 (ys.getD k 0 / 65536 % 256), .int .u8 (ys.getD k 0 / 16777216 % 256)] j = keyV ys j := by
  unfold appV
  by_cases e : j < 4 * k
  · rw [if_pos e]; exact hf j e
  · rw [if_neg e]
    obtain ⟨i, rfl⟩ : ∃ i, j = 4 * k + i := ⟨j - 4 * k, by omega⟩
    have hi : i < 4 := by omega
    unfold keyV
    rw [keyL_get ys k i hk hi, show 4 * k + i - 4 * k = i by omega]
    match i, hi with
    | 0, _ => show Value.int .u8 (_ % 256) = Value.int .u8 ((b8 _).toNat : Int); rw [b8_nat]
    | 1, _ => show Value.int .u8 (_ % 256) = Value.int .u8 ((b8 _).toNat : Int); rw [b8_nat]
    | 2, _ => show Value.int .u8 (_ % 256) = Value.int .u8 ((b8 _).toNat : Int); rw [b8_nat]
    | 3, _ => show Value.int .u8 (_ % 256) = Value.int .u8 ((b8 _).toNat : Int); rw [b8_nat]
def keyS (ys : List Int) : ByteArray := ⟨(keyL ys).toArray⟩
/-- What key leaves. -/
def KeyTo (xs : List Int) (w : World) (e : Ending) (w' : World) : Prop := ∃ ys, IsClean xs ys ∧ e = .returned (.string (keyS ys)) ∧ Below w.heap.size w w'
set_option maxHeartbeats 3200000 in
set_option maxRecDepth 100000 in
theorem key_any (A : Option Addr) (m cp : Nat) (xs : List Int) (w : World) (hr : Rd .i32 w w.heap.size A m xs) (hm : m * 4 ≤ 140737488351232) (ha : allOne xs = true) (hs : ∀ ys, IsClean xs ys → ys.length ≤ 10000) :
    Calls Tryz.prog 49 #[.slice A m cp] w (KeyTo xs w) := by
  have HC := Lib.hid (clean_yes A m cp xs w hr hm ha)
  have HS := Lib.hid hs
  have HA := Lib.hid ha
  clear hr ha hs hm
  go_enter Tryz.func49, Tryz.ntmps49
  go_wp2_with fail
  refine HC.out.mono ?_
  rintro e w1 ⟨A1, n, c1, ys, rfl, hr1, hc, hb⟩
  have hn := hr1.len
  have hl := HS.out ys hc
  obtain ⟨i0, hi, hz0, hz1, hz2⟩ := info_parts info_byte
  have hmk : ∀ W : World, (Instr.makeSlice 119 (.int .i64 0) (.int .i64 (4 * (n : Int)))).run Tryz.prog W = .ok (.slice (some ⟨W.heap.size, 0, none⟩) 0 (4 * n)) (W.alloc (.cells (madeCells (Value.int .u8 0).cells (4 * n)) 5)) := fun W => by
    have := run_makeSlice (P := Tryz.prog) (w := W) 119 5 i0 (.int .u8 0) Tryz.underlying119 hi hz0 .i64 .i64 0 (4 * (n : Int)) (by omega) (by omega) (by rw [hz1]; omega) (by rw [hz2]; omega) (by omega)
    rw [this, hz1]
    have h4 : (4 * (n : Int)).toNat = 4 * n := by omega
    rw [h4, Nat.mul_one]; rfl
  have HR1 := Lib.hid hr1
  have HCl := Lib.hid hc
  have HN := Lib.hid hn
  have HB := Lib.hid hb
  have hn4 : n ≤ 10000 := by omega
  have hrow : RowV 5 1 (w1.alloc (.cells (madeCells (Value.int .u8 0).cells (4 * n)) 5)) w1.heap.size 0 (4 * n) (keyV ys) := ⟨_, blk_new _ _, by omega, by unfold maxLen; omega, by rw [size_madeCells]; omega, fun j hj => by omega⟩
  have HROW := Lib.hid hrow
  clear hr1 hc hn hb hl hrow HC HS
  go_wp2_with fail
  go_loopw [6, 21] (fun u v wr => ∃ (k g c : Nat), v = .int .i64 (k : Int) ∧ k ≤ n ∧ u = .slice (some ⟨g, 0, none⟩) (4 * k) c ∧ w1.heap.size ≤ g ∧ Hid (∃ f, RowV 5 1 wr g (4 * k) c f ∧ ∀ j, j < 4 * k → f j = keyV ys j) ∧ Hid (Below w1.heap.size w1 wr)) (fun _ v _ => n - (intOf v).toNat)
  case atStart => exact ⟨0, w1.heap.size, 4 * n, rfl, by omega, rfl, Nat.le_refl _, Lib.hid ⟨_, HROW.out, fun j hj => by omega⟩, Lib.hid ((Below.refl _ _).alloc (Nat.le_refl _) _)⟩
  case round =>
    obtain ⟨k, g, c, rfl, hk, rfl, hg, hh, hbr⟩ := hrel
    obtain ⟨f, hf, hfe⟩ := hh.out
    clear hh HROW
    by_cases hlt : k < n
    · have tk : decide ((k : Int) < (n : Int)) = true := decide_eq_true (by omega)
      have tk2 : decide (k < n) = true := decide_eq_true hlt
      obtain ⟨g1, o1, rfl, hg1, hc1⟩ := (HR1.out.below hbr.out).get hlt
      have HF := Lib.hid hf
      have HFE := Lib.hid hfe
      clear hf hfe
      obtain ⟨x, hx⟩ : ∃ x, x = ys.getD k 0 := ⟨_, rfl⟩
      rw [← hx] at hc1
      have HXE := Lib.hid hx
      clear hx
      have HSL : Hid (SlV 5 1 (wr.alloc (.cells #[.int .u8 (x % 256), .int .u8 (x / 256 % 256), .int .u8 (x / 65536 % 256), .int .u8 (x / 16777216 % 256)] 5)) (some ⟨g, 0, none⟩) (4 * k) c f) := .inr ⟨g, rfl, HF.out.alloc _⟩
      go_wp2_with (at_builtin; refine wpList_append_sl _ rfl _ _ 119 5 rfl Tryz.underlying119 info_byte rfl (by decide) (by decide) (some ⟨g, 0, none⟩) (4 * k) c f rfl HSL.out (by omega) ⟨wr.heap.size, 0, none⟩ 4 4 [.int .u8 (x % 256), .int .u8 (x / 256 % 256), .int .u8 (x / 65536 % 256), .int .u8 (x / 16777216 % 256)] rfl rfl (box_news wr 5 _) (by simp [Value.oneCell']) (by omega) (by omega) ?_)
      intro g' c' w2 hr2 hg2 hk2
      have HR2 : Hid (∃ f, RowV 5 1 w2 g' (4 * (k + 1)) c' f ∧ ∀ j, j < 4 * (k + 1) → f j = keyV ys j) := by
        refine ⟨_, by rw [show 4 * (k + 1) = 4 * k + 4 by omega]; exact hr2, fun j hj => ?_⟩
        rw [HXE.out]
        exact keyV_app ys (by rw [HN.out]; exact hlt) HFE.out j (by omega)
      have hgl : w1.heap.size ≤ g' := by
        have hs := hbr.out.size
        rcases hg2 with e | e
        · rw [onB_some] at e
          have e : g' = g := e
          omega
        · omega
      have HB2 : Hid (Below w1.heap.size w1 w2) := hbr.out.trans (((Kf.refl (fun j => onB (some ⟨g, 0, none⟩) j) wr).alloc _).trans (hk2 (fun j => onB (some ⟨g, 0, none⟩) j) (fun j hj => hj)) (fun x hx => .inl hx) |>.below hbr.out.size (fun x hx => by rw [onB_some] at hx; have hx : x = g := hx; omega))
      clear hr2 hg2 hk2 HF HFE HSL hbr hc1
      go_wp2_with fail
      go_roundw
      case rel => exact ⟨k + 1, g', c', by go_num, by omega, by rw [show 4 * (k + 1) = 4 * k + 4 by omega], hgl, HR2, HB2⟩
      case measure => simp [intOf]; omega
    · have tk : decide ((k : Int) < (n : Int)) = false := decide_eq_false (by omega)
      obtain rfl : k = n := by omega
      have hlen : (keyL ys).length = 4 * k := by rw [keyL_len, HN.out]
      have hcv : (convert 119 9 (.slice (some ⟨g, 0, none⟩) (4 * k) c)).run Tryz.prog wr = .ok (.string (keyS ys)) wr := by
        rw [← hlen]
        refine run_convert_bytes_back wr _ _ 5 ⟨g, 0, none⟩ c (keyL ys) Tryz.underlying119 Tryz.underlying5 Tryz.underlying9 fun j hj => ?_
        have hj2 : j < 4 * k := by omega
        have hcell := hf.cell (show j < 4 * k * 1 by omega)
        rw [hfe j hj2] at hcell
        have hadd : ((⟨g, 0, none⟩ : Addr).add j) = ⟨g, j, none⟩ := by unfold Addr.add; split <;> simp_all
        rw [hadd, hcell]
        unfold keyV
        rw [List.getD, List.getElem?_eq_getElem hj]; rfl
      have HFin : Hid (KeyTo xs w (.returned (.string (keyS ys))) wr) := ⟨ys, HCl.out, rfl, HB.out.trans (hbr.out.mono HB.out.size)⟩
      clear hf hfe hbr
      go_wp2_with fail
      go_ret
      exact HFin.out
end Go.Proofs.YtkckodpfhlpkgaaGreat
namespace Go.Proofs.YtkckodpfhlpkgaaGreat
open Go.RowKit LitM TrailM EngM

/-- A map's element as it stands. -/
def rawE (v : Value) : Option (DataW Value × List MemPlace) := some (.held v, [])
theorem kst : Maps.Keyed Tryz.prog 9 := Maps.string_keyed Tryz.underlying9
theorem key_str {l : List UInt8} (hl : l.length ≤ maxLen) : keyOf Tryz.prog 9 (.string ⟨l.toArray⟩) = some (.string l) := by
  have := WideMaps.keyOf_string_mk (P := Tryz.prog) Tryz.underlying9 (s := ⟨l.toArray⟩) (by simpa [ByteArray.size] using hl)
  simpa using this
theorem zero_ints (w : World) : (zeroValue 37).run Tryz.prog w = .ok (.slice none 0 0) w := by kernel_rfl
/-- A map of slices: each key's own. -/
def MapR (w : World) (bm n : Nat) (hd : List UInt8 → Value) : Prop := ∃ D : DataW Value, w.ownsMap Tryz.prog 9 rawE bm n D ∧ ∀ s, D.atKey (.string s) (.held (.slice none 0 0)) = .held (hd s)
def updK (hd : List UInt8 → Value) (l : List UInt8) (v : Value) : List UInt8 → Value := fun s => if s = l then v else hd s
section
variable {w w' : World} {bm n : Nat} {hd : List UInt8 → Value}
theorem MapR.made (w : World) : MapR (w.alloc (.map #[] 0)) w.heap.size 0 (fun _ => .slice none 0 0) :=
  ⟨_, World.ownsMap_made _ _ _ _, fun s => by simp [DataW.atKey]⟩
theorem MapR.same (h : MapR w bm n hd) (hb : w'.heap[bm]? = w.heap[bm]?) : MapR w' bm n hd := by
  obtain ⟨D, ⟨es, clock, h1, h2⟩, k⟩ := h
  exact ⟨D, ⟨es, clock, by rw [hb]; exact h1, h2⟩, k⟩
theorem MapR.lt (h : MapR w bm n hd) : bm < w.heap.size := by obtain ⟨D, h, _⟩ := h; exact h.lt
theorem MapR.made_at {bm : Nat} (h : w.heap[bm]? = some (.map #[] 0)) : MapR w bm 0 (fun _ => .slice none 0 0) := by
  obtain ⟨D, ⟨es, clock, h1, h2⟩, k⟩ := MapR.made ⟨#[], w.tape, w.drawn, w.os, w.output⟩
  refine ⟨D, ⟨es, clock, ?_, h2⟩, k⟩
  rw [h]
  have : (World.alloc ⟨#[], w.tape, w.drawn, w.os, w.output⟩ (.map #[] 0)).heap[(0 : Nat)]? = some (.map #[] 0) := rfl
  rw [← this]; exact h1
theorem Kf.turned {b : Nat} (h : w.mapTurned w' b) : Kf (fun k => k = b) w w' := by
  have hg := h.grown
  exact (Kf.refl (fun k => k = b) w).grown hg (fun g hg' => by injection hg' with hg'; exact .inl hg'.symm)
theorem MapR.put {l : List UInt8} {v : Value} {D : DataW Value} (hD : Maps.IsMap D) (hk : WideAt.IsKeyLit (.string l)) (h : ∀ s, D.atKey (.string s) (.held (.slice none 0 0)) = .held (hd s)) (s : List UInt8) : (D.put (.string l) (.held v)).atKey (.string s) (.held (.slice none 0 0)) = .held (updK hd l v s) := by
  unfold updK
  by_cases e : s = l
  · subst e; rw [if_pos rfl]; exact Maps.atKey_put_same hD hk _ _
  · rw [if_neg e, Maps.atKey_put_other (fun e' => e (by injection e'))]; exact h s
theorem MapR.del {l : List UInt8} {D : DataW Value} (h : ∀ s, D.atKey (.string s) (.held (.slice none 0 0)) = .held (hd s)) (s : List UInt8) : (D.del (.string l)).atKey (.string s) (.held (.slice none 0 0)) = .held (updK hd l (.slice none 0 0) s) := by
  unfold updK
  by_cases e : s = l
  · subst e; rw [if_pos rfl]; exact Maps.atKey_del_same _
  · rw [if_neg e, Maps.atKey_del_other (fun e' => e (by injection e'))]; exact h s
/-- m[k]. -/
theorem wpList_lookup_raw {ops : Array Oper} {rest : List Oper} {o : Oper} {a : Act} {Q : Exit → Act → World → Prop} (w : World) (hg : o.guard = none) (m x : Operand) (t : TypeId) (hop : o.op = Op.lookup t m x false)
    (ht : Tryz.prog.underlying t = some (.map 9 37)) (b n : Nat) (hd : List UInt8 → Value) (hm : a.eval m = .map (some b)) (hown : MapR w b n hd) (l : List UInt8) (hl : l.length ≤ maxLen) (hx : a.eval x = .string ⟨l.toArray⟩) (v' : Value) (hv' : hd l = v')
    (hK : wpList Tryz.prog ops Q rest (a.put o.dst v') w) : wpList Tryz.prog ops Q (o :: rest) a w := by
  obtain ⟨D, hown, hat⟩ := hown
  refine wpList_plain hg fun K' hK' => ?_
  subst hv'
  obtain ⟨v, ps, hrun, hv⟩ := hown.lookup kst ht (zero_ints w) (zd := .held (.slice none 0 0)) (zp := []) rfl (key_str hl)
  have hv : v = hd l := by
    have e1 : DataW.held v = D.atKey (.string l) (.held (.slice none 0 0)) := congrArg Prod.fst (Option.some.inj hv)
    rw [hat l] at e1
    exact DataW.held.inj e1
  subst hv
  unfold Oper.wp
  simp [execOp, hop, hm, hx, hrun, Result.andThen]
  exact hK' _ _ hK
/-- m[k] = v, in a region that draws its order. -/
theorem step_mapUpdate_raw {ops : Array Oper} {o : Oper} {a : Act} {K : Act → World → Prop} {Q : Exit → Act → World → Prop} {E : Prop} (w : World) (hgd : o.guard = none) (m x v : Operand) (t : TypeId) (hop : o.op = Op.mapUpdate t m x v)
    (ht : Tryz.prog.underlying t = some (.map 9 37)) (b n : Nat) (hd : List UInt8 → Value) (hm : a.eval m = .map (some b)) (hown : MapR w b n hd) (hn : n < maxLen) (l : List UInt8) (hl : l.length ≤ maxLen) (hx : a.eval x = .string ⟨l.toArray⟩) (val : Value) (hv : a.eval v = val)
    (h : ∀ w', MapR w' b (n + 1) (updK hd l val) → Kf (fun k => k = b) w w' → K (a.put o.dst undef) w') : if Region.wanted o (yielded ops a.tmps) = true then Oper.wp Tryz.prog o a w K Q else E := by
  have hw : Region.wanted o (yielded ops a.tmps) = true := by simp [Region.wanted, hgd]
  rw [if_pos hw]
  obtain ⟨D, hown, hat⟩ := hown
  obtain ⟨w', hrun, h1, h2⟩ := hown.store kst ht hn (key_str hl) (val := val) (d := .held val) (ps := []) rfl
  unfold Oper.wp
  simp [execOp, hop, hm, hx, hv, hrun, Result.andThen]
  exact h w' ⟨_, h1, MapR.put hown.isMap (kst.key (key_str hl)) hat⟩ (Kf.turned h2)
/-- delete(m, k). -/
theorem wpList_delete_raw {ops : Array Oper} {rest : List Oper} {o : Oper} {a : Act} {Q : Exit → Act → World → Prop} (w : World) (hg : o.guard = none) (m x : Operand) (t : TypeId) (hop : o.op = Op.call { callee := Callee.builtin Builtin.delete, args := #[m, x], argTypes := #[t, 9] })
    (ht : Tryz.prog.underlying t = some (.map 9 37)) (b n : Nat) (hd : List UInt8 → Value) (hm : a.eval m = .map (some b)) (hown : MapR w b n hd) (l : List UInt8) (hl : l.length ≤ maxLen) (hx : a.eval x = .string ⟨l.toArray⟩)
    (hK : ∀ w', MapR w' b n (updK hd l (.slice none 0 0)) → Kf (fun k => k = b) w w' → wpList Tryz.prog ops Q rest (a.put o.dst (.tuple #[])) w') : wpList Tryz.prog ops Q (o :: rest) a w := by
  obtain ⟨D, hown, hat⟩ := hown
  refine wpList_plain hg fun K' hK' => ?_
  obtain ⟨w', hrun, r1, r2⟩ := hown.drop kst ht (key_str hl) o.type
  unfold Oper.wp
  simp [execOp, hop, resolve, invoke, builtin, hm, hx, hrun, Result.andThen]
  exact hK' _ _ (hK w' ⟨_, r1, MapR.del hat⟩ (Kf.turned r2))
end

/-- Whose a block is. -/
inductive Hl where
  | no | hand | map | crow | list (s : List UInt8)
/-- What a hand holds. -/
structure HdC where
  bh : Nat
  bm : Nat
  n : Nat
  given : Int
  Ac : Option Addr
  cc : Nat
  nc : Nat
  last : Int
  hd : List UInt8 → Option Addr × Nat
  ns : List UInt8 → List Nat
  hl : Nat → Hl
def HdC.hdV (h : HdC) (s : List UInt8) : Value := .slice (h.hd s).1 (h.ns s).length (h.hd s).2
def HdC.cells (h : HdC) (bt : Nat) : Array Value := #[.map (some h.bm), .pointer (some ⟨bt, 0, none⟩), .int .i64 h.given, .slice h.Ac h.nc h.cc, .int .i64 h.last]
/-- A hand of a law's own. -/
structure HdG (B : Nat) (w0 w : World) (h : HdC) (c : TmC) (S : Eng) (q : Pm) : Prop where
  tm : TmG B w0 w c S q
  hh : w.heap[h.bh]? = some (.cells (h.cells c.bt) 51 (0, 0))
  mp : MapR w h.bm h.n h.hdV
  cr : SlV 37 1 w h.Ac h.nc h.cc (fun _ => .slice none 0 0)
  ls : ∀ s, SlV 3 1 w (h.hd s).1 (h.ns s).length (h.hd s).2 (natC (h.ns s))
  lh : h.hl h.bh = .hand
  lm : h.hl h.bm = .map
  lc : ∀ k, onB h.Ac k → h.hl k = .crow
  ll : ∀ s k, onB (h.hd s).1 k → h.hl k = .list s
  lo : ∀ k, h.hl k ≠ .no → q.own k = .no ∧ c.tl k = .no ∧ B ≤ k ∧ k < w.heap.size
  tr : c.tr = false
section
variable {B : Nat} {w0 w w' : World} {h : HdC} {c c' : TmC} {S S' : Eng} {q q' : Pm}
theorem HdG.cells (H : HdG B w0 w h c S q) : w.cell? ⟨h.bh, 0, none⟩ = some (.map (some h.bm)) ∧ w.cell? ⟨h.bh, 1, none⟩ = some (.pointer (some ⟨c.bt, 0, none⟩)) ∧ w.cell? ⟨h.bh, 2, none⟩ = some (.int .i64 h.given) ∧ w.cell? ⟨h.bh, 3, none⟩ = some (.slice h.Ac h.nc h.cc) ∧ w.cell? ⟨h.bh, 4, none⟩ = some (.int .i64 h.last) ∧ ∀ j, w.frozen? ⟨h.bh, j, none⟩ = false := by
  have hh := H.hh
  refine ⟨?_, ?_, ?_, ?_, ?_, fun j => Lib.frozen_of_heap hh j⟩
  all_goals (rw [Lib.cell_of_heap hh]; rfl)
/-- Where the hand's own blocks stay. -/
theorem HdG.same (H : HdG B w0 w h c S q) (hT : TmG B w0 w' c' S' q') (hbt : c'.bt = c.bt) (hk : ∀ k, h.hl k ≠ .no → w'.heap[k]? = w.heap[k]? ∧ q'.own k = .no ∧ c'.tl k = .no) (hs : w.heap.size ≤ w'.heap.size) (htr : c'.tr = c.tr := by rfl) : HdG B w0 w' h c' S' q' :=
  ⟨hT, by rw [(hk h.bh (by rw [H.lh]; intro e; cases e)).1, hbt]; exact H.hh, H.mp.same (hk h.bm (by rw [H.lm]; intro e; cases e)).1,
    H.cr.same fun j hj => (hk j (by rw [H.lc j hj]; intro e; cases e)).1, fun s => (H.ls s).same fun j hj => (hk j (by rw [H.ll s j hj]; intro e; cases e)).1,
    H.lh, H.lm, H.lc, H.ll, fun k hk' => ⟨(hk k hk').2.1, (hk k hk').2.2, (H.lo k hk').2.2.1, Nat.lt_of_lt_of_le (H.lo k hk').2.2.2 hs⟩, htr.trans H.tr⟩
theorem HdG.below (H : HdG B w0 w h c S q) (hb : Below w.heap.size w w') : HdG B w0 w' h c S q :=
  H.same (H.tm.below hb) rfl (fun k hk => ⟨hb.block k (H.lo k hk).2.2.2, (H.lo k hk).1, (H.lo k hk).2.1⟩) hb.size
/-- Behind a call of the team's. -/
theorem HdG.team (H : HdG B w0 w h c S q) (hT : TmG B w0 w' c' S' q') (hX : TExt c.tl q q' w w') (hbt : c'.bt = c.bt) (htl : ∀ k, k < w.heap.size → c'.tl k = c.tl k) (htr : c'.tr = c.tr := by rfl) : HdG B w0 w' h c' S' q' :=
  H.same (htr := htr) hT hbt (fun k hk => by
    obtain ⟨h1, h2, _, h4⟩ := H.lo k hk
    exact ⟨hX.kf.block k h4 (fun e => by rcases e with e | e; exact e h1; exact e h2), by rw [hX.old k h4]; exact h1, by rw [htl k h4]; exact h2⟩) hX.kf.size
/-- Behind a change of a hand's own block. -/
theorem HdG.tmk {F : Nat → Prop} (H : HdG B w0 w h c S q) (hk : Kf F w w') (hF : ∀ k, F k → h.hl k ≠ .no ∨ w.heap.size ≤ k) : TmG B w0 w' c S q :=
  H.tm.kept hk fun k e => by
    rcases hF k e with x | x
    · exact ⟨(H.lo k x).1, (H.lo k x).2.1, (H.lo k x).2.2.1⟩
    · refine ⟨H.tm.eng.fresh x, Classical.byContradiction fun e => ?_, Nat.le_trans H.tm.eng.hs x⟩
      have := (H.tm.lo k e).2.2; omega
end
end Go.Proofs.YtkckodpfhlpkgaaGreat
