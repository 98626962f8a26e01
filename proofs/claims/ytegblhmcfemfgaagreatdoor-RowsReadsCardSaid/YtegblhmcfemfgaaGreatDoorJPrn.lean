import Derived.Shelf.Strconv.AppendIntPublic10
import Derived.Test.YtegblhmcfemfgaaGreatDoorProg
import Derived.Test.YtegblhmcfemfgaaGreatDoorWTake
import Derived.Test.YtegblhmcfemfgaaGreatDoorJMay
import Derived.Lib.AppendStr
import Derived.Lib.OthersKept
import Derived.Deep.CutRange
import Derived.Deep.CutBlock
namespace Go.Proofs
open Go.Shelf
def Tryz.laysM176_ren : Go.Shelf.Ren := ⟨fun | 176 => 91 | 249 => 119 | 288 => 139 | 283 => 151 | 284 => 152 | 285 => 153 | 286 => 154 | 129 => 89 | 317 => 169 | 318 => 170 | 319 => 171 | 320 => 172 | 337 => 180 | 338 => 181 | n => n, fun | 37 => 106 | 2 => 2 | 3 => 3 | 53 => 149 | 4 => 4 | 9 => 9 | 171 => 202 | 0 => 0 | 173 => 204 | 212 => 218 | 51 => 147 | 5 => 5 | 20 => 20 | 213 => 219 | 46 => 127 | 232 => 227 | 233 => 228 | n => n, fun | 17 => 1 | 18 => 2 | 19 => 3 | n => n⟩
theorem Tryz.laysM176 : Go.Proofs.LaysM.n176 Tryz.prog Tryz.laysM176_ren := {
 mixed := by kernel_rfl
 f129 := Tryz.func89.trans (congrArg some (by kernel_rfl))
 f176 := Tryz.func91.trans (congrArg some (by kernel_rfl))
 f249 := Tryz.func119.trans (congrArg some (by kernel_rfl))
 f283 := Tryz.func151.trans (congrArg some (by kernel_rfl))
 f284 := Tryz.func152.trans (congrArg some (by kernel_rfl))
 f285 := Tryz.func153.trans (congrArg some (by kernel_rfl))
 f286 := Tryz.func154.trans (congrArg some (by kernel_rfl))
 f288 := Tryz.func139.trans (congrArg some (by kernel_rfl))
 f317 := Tryz.func169.trans (congrArg some (by kernel_rfl))
 f318 := Tryz.func170.trans (congrArg some (by kernel_rfl))
 f319 := Tryz.func171.trans (congrArg some (by kernel_rfl))
 f320 := Tryz.func172.trans (congrArg some (by kernel_rfl))
 f337 := Tryz.func180.trans (congrArg some (by kernel_rfl))
 f338 := Tryz.func181.trans (congrArg some (by kernel_rfl))
 t0 := Tryz.underlying0
 a0 := Tryz.isAgg0
 z0 := Tryz.sizeOf0
 v0 := Tryz.zeroValue0
 t2 := Tryz.underlying2
 a2 := Tryz.isAgg2
 z2 := Tryz.sizeOf2
 v2 := Tryz.zeroValue2
 t3 := Tryz.underlying3
 a3 := Tryz.isAgg3
 z3 := Tryz.sizeOf3
 v3 := Tryz.zeroValue3
 t4 := Tryz.underlying4
 a4 := Tryz.isAgg4
 z4 := Tryz.sizeOf4
 v4 := Tryz.zeroValue4
 t5 := Tryz.underlying5
 a5 := Tryz.isAgg5
 z5 := Tryz.sizeOf5
 v5 := Tryz.zeroValue5
 t9 := Tryz.underlying9
 a9 := Tryz.isAgg9
 z9 := Tryz.sizeOf9
 v9 := Tryz.zeroValue9
 t20 := Tryz.underlying20
 a20 := Tryz.isAgg20
 z20 := Tryz.sizeOf20
 v20 := Tryz.zeroValue20
 t37 := Tryz.underlying106
 a37 := Tryz.isAgg106
 z37 := Tryz.sizeOf106
 v37 := Tryz.zeroValue106
 t46 := Tryz.underlying127
 a46 := Tryz.isAgg127
 z46 := Tryz.sizeOf127
 v46 := Tryz.zeroValue127
 t51 := Tryz.underlying147
 a51 := Tryz.isAgg147
 z51 := Tryz.sizeOf147
 v51 := Tryz.zeroValue147
 t53 := Tryz.underlying149
 a53 := Tryz.isAgg149
 z53 := Tryz.sizeOf149
 v53 := Tryz.zeroValue149
 t171 := Tryz.underlying202
 a171 := Tryz.isAgg202
 z171 := Tryz.sizeOf202
 v171 := Tryz.zeroValue202
 t173 := Tryz.underlying204
 a173 := Tryz.isAgg204
 z173 := Tryz.sizeOf204
 v173 := Tryz.zeroValue204
 t212 := Tryz.underlying218
 a212 := Tryz.isAgg218
 z212 := Tryz.sizeOf218
 v212 := Tryz.zeroValue218
 t213 := Tryz.underlying219
 a213 := Tryz.isAgg219
 z213 := Tryz.sizeOf219
 t232 := Tryz.underlying227
 a232 := Tryz.isAgg227
 z232 := Tryz.sizeOf227
 v232 := Tryz.zeroValue227
 t233 := Tryz.underlying228
 a233 := Tryz.isAgg228
 z233 := Tryz.sizeOf228
 v233 := Tryz.zeroValue228
 g17 := by kernel_rfl
 g18 := by kernel_rfl
 g19 := by kernel_rfl
 i0 := by kernel_rfl
 i2 := by kernel_rfl
 i3 := by kernel_rfl
 i4 := by kernel_rfl
 i5 := by kernel_rfl
 i9 := by kernel_rfl
 i20 := by kernel_rfl
 i37 := by kernel_rfl
 i46 := by kernel_rfl
 i51 := by kernel_rfl
 i53 := by kernel_rfl
 i171 := by kernel_rfl
 i173 := by kernel_rfl
 i212 := by kernel_rfl
 i232 := by kernel_rfl
 i233 := by kernel_rfl
 m17 := by kernel_rfl
 m18 := by kernel_rfl
 m19 := by kernel_rfl }
open Go.RowKit Go.Sort Go.Lib in
theorem Tryz.strconv_AppendInt_10 (B n : Nat) (i : Int) (h0 : -9223372036854775808 ≤ i) (h1 : i ≤ 9223372036854775807) (sv : Value) (xs : List Value) (w : World) (hown : w.ownsRow B 5 1 sv n xs) (hBw : B ≤ w.heap.size) (hlim : n + 21 ≤ 140737488355328) (htab : Lib.TabBelow Tryz.prog B w "internal/strconv.uint64pow10" .u64 Lib.pow10Tab) :
 Calls Tryz.prog 91 #[sv, .int .i64 i, .int .i64 10] w fun e w' => ∃ v', e = .returned v' ∧ w'.ownsRow B 5 1 v' (n + (Lib.itoa i).length) (xs ++ Lib.byteCells (Lib.itoa i)) ∧ Below B w w' ∧ Lib.OthersKept 5 none w w' := Any.strconv_AppendInt_10 Tryz.laysM176 B n i h0 h1 sv xs w hown hBw hlim htab
end Go.Proofs
set_option maxRecDepth 100000
set_option maxHeartbeats 8000000
namespace Go.Proofs.YtegblhmcfemfgaaGreatDoor
open Go.RowKit
def Kp (base : Nat) (w w' : World) : Prop := Below base w w' ∧ Lib.OthersKept 5 none w w'
theorem Kp.trans {base : Nat} {a b c : World} (h : Kp base a b) (k : Kp base b c) : Kp base a c := ⟨h.1.trans k.1, h.2.trans k.2⟩
theorem Kp.of_below {base : Nat} {w w' : World} (h : Below w.heap.size w w') (hb : base ≤ w.heap.size) : Kp base w w' :=
 ⟨h.mono hb, fun k o hk _ _ => by rw [h.block k (Array.getElem?_eq_some_iff.1 hk).1]; exact hk⟩
theorem Kp.alloc {base : Nat} {w : World} (o : Obj) (hb : base ≤ w.heap.size) : Kp base w (w.alloc o) := Kp.of_below (below_alloc w o) hb
theorem Kp.size {base : Nat} {w w' : World} (h : Kp base w w') : w.heap.size ≤ w'.heap.size := h.1.size
theorem own_row {E : TypeId} {w : World} {base : Nat} {v : Value} {l : List UInt8} (h : Own E w base v l) : ∀ g, v.ownBlock = some g → ∃ c fz, w.heap[g]? = some (.cells c E fz) := by
 intro g hg
 rcases h.2 with ⟨rfl, _⟩ | ⟨g', cap, cur, rfl, _, hc, _⟩
 · cases hg
 cases hg
 exact ⟨_, _, hc⟩
theorem Kp.grown {base base' : Nat} {w w' : World} {v : Value} {l : List UInt8} (h : Own 5 w base' v l) (hg : w.grownBy w' v.ownBlock) (hb : base ≤ base') (hw : base ≤ w.heap.size) : Kp base w w' :=
 ⟨h.grows hg hb hw, (Lib.OthersKept.refl _ _ _).grown hg (own_row h)⟩
theorem Kp.box {base : Nat} {w w' : World} (h : Kp base w w') {k : Nat} {cs : Array Value} {T : TypeId} {fz : Nat × Nat} (hk : w.heap[k]? = some (.cells cs T fz)) (hT : T ≠ 5) : w'.heap[k]? = some (.cells cs T fz) :=
 h.2 k _ hk (by simp) (fun c fz' e => hT (by cases e; rfl))
theorem BT.appendT {P : Program} {T E U : TypeId} {ops : Array Oper} {rest : List Oper} {o : Oper} {a : Act} {Q : Exit → Act → World → Prop} {w : World} (B : BT P T E) (hU : P.underlying U = some .string) (hgd : o.guard = none) (s x : Operand)
 (ho : o.op = .call { callee := .builtin .append, args := #[s, x], argTypes := #[T, U] }) (base : Nat) (v : Value) (l m : List UInt8) (hown : Own E w base v l) (hs : a.eval s = v) (hx : a.eval x = str m) (hlen : l.length + m.length ≤ 140737488355328) (hbase : base ≤ w.heap.size)
 (h : ∀ v' w', Own E w' base v' (l ++ m) → w.grownBy w' v.ownBlock → wpList P ops Q rest (a.put o.dst v') w') : wpList P ops Q (o :: rest) a w := by
 obtain ⟨i, hi, h1, h2, h3⟩ := info_parts B.info
 refine Lib.wpList_append_own_string _ hgd s x T U ho base E i B.t hU hi h1 h2 h3 v l.length (l.map bv) hs hown ⟨m.toArray⟩ hx (by unfold maxLen; simp [ByteArray.size]; omega) (by simpa [ByteArray.size] using hlen) hbase ?_
 intro v' w' h4 h5 _
 refine h v' w' ?_ h5
 unfold Own
 rw [strCells_map] at h4
 simpa [ByteArray.size] using h4
theorem quote_yes (s : List UInt8) (w : World) (hx : txF s = true) : Calls Tryz.prog 120 #[str s] w fun e w' => e = .returned (.tuple #[str (quo s), .int .i64 0]) ∧ Below w.heap.size w w' := by
 simp only [txF, Bool.and_eq_true, decide_eq_true_eq] at hx
 have h := quote_any s w (by omega)
 unfold quoteE at h
 rw [hx.2] at h
 exact h
theorem quo_len (s : List UInt8) (hx : txF s = true) : (quo s).length ≤ 60000 := by
 simp only [txF, Bool.and_eq_true, decide_eq_true_eq] at hx
 have := qbL_len s
 simp [quo]; omega
theorem appText_any (s out : List UInt8) (vb : Value) (base : Nat) (w : World) (hx : txF s = true) (hown : Own 5 w base vb out) (hb : base ≤ w.heap.size) (hl : out.length ≤ 70368744177664) :
 Calls Tryz.prog 92 #[vb, str s] w fun e w' => ∃ v', e = .returned v' ∧ Own 5 w' base v' (out ++ quo s) ∧ Kp base w w' := by
 obtain ⟨ad, n, cp, rfl⟩ := hown.form
 have CQ := Lib.hid (quote_yes s w hx)
 have hq := quo_len s hx
 obtain ⟨u, hu⟩ : ∃ u, u = quo s := ⟨_, rfl⟩
 rw [← hu] at CQ hq ⊢
 have HO := Lib.hid hown
 clear hown hu hx
 go_enter Tryz.func92, Tryz.ntmps92
 go_wp2_with fail
 refine CQ.out.mono ?_
 rintro e w1 ⟨rfl, hb1⟩
 have HO1 := Lib.hid (HO.out.below hb1 (Nat.le_refl _))
 have HK := Lib.hid (Kp.of_below hb1 hb)
 have hs1 := hb1.size
 clear hb1 CQ HO
 go_wp2_with (at_builtin; refine hold ?_)
 intro _
 refine bt.appendT Tryz.underlying9 rfl _ _ rfl base _ out u HO1.out rfl rfl (by omega) (by omega) ?_
 intro v2 w2 hown2 hg2
 have HX := Lib.hid (And.intro hown2 (HK.out.trans (Kp.grown HO1.out hg2 (Nat.le_refl _) (by omega))))
 clear hg2 hown2
 go_wp2_with fail
 go_ret
 exact ⟨_, rfl, HX.out.1, HX.out.2⟩
abbrev TabJ (base : Nat) (w : World) : Prop := Lib.TabBelow Tryz.prog base w "internal/strconv.uint64pow10" .u64 Lib.pow10Tab
def AppC (v : JV) : Prop := ∀ (d : Nat) (F : Nat → Prop) (w : World) (cs : List Value) (vb : Value) (out : List UInt8) (base : Nat), mayV v d = true → RdJ w F v cs → (∀ i, F i → i < base) → Own 5 w base vb out → base ≤ w.heap.size →
 out.length + (prV v).length ≤ 70368744177664 → TabJ base w → Calls Tryz.prog 72 #[vb, .agg cs.toArray] w fun e w' => ∃ v', e = .returned v' ∧ Own 5 w' base v' (out ++ prV v) ∧ Kp base w w'
theorem RdJ.kp {w w' : World} {F : Nat → Prop} {base : Nat} {v : JV} {cs : List Value} (h : RdJ w F v cs) (hF : ∀ i, F i → i < base) (k : Kp base w w') : RdJ w' F v cs :=
 h.frm (G := fun i => base ≤ i) ⟨k.1.os, k.1.tape, k.1.output, k.1.size, fun i hi hn => k.1.block i (by omega)⟩ (fun i hi e => by have := hF i hi; omega)
theorem cell_kp {w w' : World} {base b off : Nat} {u : Value} (k : Kp base w w') (hb : b < base) (h : w.cell? ⟨b, off, none⟩ = some u) : w'.cell? ⟨b, off, none⟩ = some u := (k.1.cell (p := ⟨b, off, none⟩) hb).trans h
theorem prT_app (a b : List JV) : prT (a ++ b) = prT a ++ prT b := by
 induction a with
 | nil => rfl
 | cons x t ih => simp only [List.cons_append, prT, ih, List.append_assoc]
theorem prU_app (a b : List MemT) : prU (a ++ b) = prU a ++ prU b := by
 induction a with
 | nil => rfl
 | cons x t ih => obtain ⟨n, v⟩ := x; simp only [List.cons_append, prU, ih, List.append_assoc]
theorem drop1_app {l m : List UInt8} (h : l ≠ []) : (l ++ m).drop 1 = l.drop 1 ++ m := by
 cases l with
 | nil => exact absurd rfl h
 | cons a b => rfl
def lsT (l : List JV) (k : Nat) : List UInt8 := (prT (l.take k)).drop 1
def obT (m : List MemT) (k : Nat) : List UInt8 := (prU (m.take k)).drop 1
theorem lsT_one {l : List JV} (h : 0 < l.length) : lsT l 1 = prV l[0] := by
 unfold lsT
 obtain ⟨a, b, rfl⟩ := List.exists_cons_of_length_pos h
 simp [prT]
theorem obT_one {l : List MemT} (h : 0 < l.length) : obT l 1 = quo l[0].1 ++ 58 :: prV l[0].2 := by
 unfold obT
 obtain ⟨⟨a, c⟩, b, rfl⟩ := List.exists_cons_of_length_pos h
 simp [prU]
theorem lsT_succ {l : List JV} {k : Nat} (h : k < l.length) (h0 : k ≠ 0) : lsT l (k + 1) = lsT l k ++ 44 :: prV l[k] := by
 unfold lsT
 rw [List.take_succ_eq_append_getElem h, prT_app, drop1_app]
 · simp [prT]
 intro e
 have : (prT (l.take k)).length = 0 := by rw [e]; rfl
 obtain ⟨a, b, hab⟩ := List.exists_cons_of_length_pos (l := l.take k) (by simp; omega)
 rw [hab, prT] at this
 simp at this
theorem obT_succ {l : List MemT} {k : Nat} (h : k < l.length) (h0 : k ≠ 0) : obT l (k + 1) = obT l k ++ 44 :: (quo l[k].1 ++ 58 :: prV l[k].2) := by
 unfold obT
 rw [List.take_succ_eq_append_getElem h, prU_app, drop1_app]
 · simp [prU]
 intro e
 have : (prU (l.take k)).length = 0 := by rw [e]; rfl
 obtain ⟨⟨a, c⟩, b, hab⟩ := List.exists_cons_of_length_pos (l := l.take k) (by simp; omega)
 rw [hab, prU] at this
 simp at this
theorem lsT_all (l : List JV) : lsT l l.length = (prT l).drop 1 := by unfold lsT; rw [List.take_length]
theorem obT_all (l : List MemT) : obT l l.length = (prU l).drop 1 := by unfold obT; rw [List.take_length]
theorem lsT_le (l : List JV) {k : Nat} (_ : k ≤ l.length) : (lsT l k).length ≤ ((prT l).drop 1).length := by
 unfold lsT
 have := prT_app (l.take k) (l.drop k)
 rw [List.take_append_drop] at this
 rw [this, List.length_drop, List.length_drop, List.length_append]
 omega
theorem obT_le (l : List MemT) {k : Nat} (_ : k ≤ l.length) : (obT l k).length ≤ ((prU l).drop 1).length := by
 unfold obT
 have := prU_app (l.take k) (l.drop k)
 rw [List.take_append_drop] at this
 rw [this, List.length_drop, List.length_drop, List.length_append]
 omega
theorem mayL_mem {l : List JV} {d : Nat} (h : mayL l d = true) : ∀ x ∈ l, mayV x d = true := by
 induction l with
 | nil => intro x hx; cases hx
 | cons a t ih =>
  rw [mayL, Bool.and_eq_true] at h
  intro x hx
  rcases List.mem_cons.1 hx with rfl | hx
  · exact h.1
  exact ih h.2 x hx
theorem mayM_mem {m : List MemT} {d : Nat} {p : Option (List UInt8)} (h : mayM m p d = true) : ∀ x ∈ m, txF x.1 = true ∧ mayV x.2 d = true := by
 induction m generalizing p with
 | nil => intro x hx; cases hx
 | cons a t ih =>
  obtain ⟨n, v⟩ := a
  simp only [mayM, Bool.and_eq_true] at h
  intro x hx
  rcases List.mem_cons.1 hx with rfl | hx
  · exact ⟨h.1.1.2, h.1.2⟩
  exact ih h.2 x hx
theorem appList_any (l : List JV) (IH : ∀ x ∈ l, AppC x) (d : Nat) (F : Nat → Prop) (w : World) (al : Option Addr) (cl : Nat) (rows : List (List Value)) (vb : Value) (out : List UInt8) (base : Nat) (hm : mayL l d = true) (h1 : RdFB F 5 w (.slice al l.length cl) rows) (h2 : RdL w F l rows)
 (hF : ∀ i, F i → i < base) (hown : Own 5 w base vb out) (hb : base ≤ w.heap.size) (hl : out.length + (91 :: ((prT l).drop 1 ++ [93])).length ≤ 70368744177664) (ht : TabJ base w) :
 Calls Tryz.prog 93 #[vb, .slice al l.length cl] w fun e w' => ∃ v', e = .returned v' ∧ Own 5 w' base v' (out ++ 91 :: ((prT l).drop 1 ++ [93])) ∧ Kp base w w' := by
 obtain ⟨ad, n, cp, rfl⟩ := hown.form
 have HO := Lib.hid hown
 have HL := Lib.hid (And.intro h1 h2)
 have HI := Lib.hid (And.intro IH (And.intro hm hF))
 have HT := Lib.hid ht
 have HX : Hid (∀ k, k ≤ l.length → (lsT l k).length ≤ ((prT l).drop 1).length) := Lib.hid (fun k hk => lsT_le l hk)
 have hl' : out.length + ((prT l).drop 1).length + 2 ≤ 70368744177664 := by simp only [List.length_cons, List.length_append, List.length_nil] at hl; omega
 have hlen := h1.lens.2.1
 clear hown h1 h2 IH hm hF ht hl
 go_enter Tryz.func93, Tryz.ntmps93
 go_wp2_with (at_builtin; refine hold ?_)
 intro _
 refine bt.append1 rfl _ _ rfl base _ out 91 _ rfl HO.out rfl rfl (by omega) hb ?_
 intro v1 w1 hown1 hg1
 have hk1 : Kp base w w1 := Kp.grown HO.out hg1 (Nat.le_refl _) hb
 have HS : Hid (Own 5 w1 base v1 (out ++ 91 :: lsT l 0) ∧ Kp base w w1) := Lib.hid ⟨hown1, hk1⟩
 clear hown1 hg1 hk1
 go_wp2_with fail
 go_loopw [0, 12] (fun v i wr => ∃ k : Nat, k ≤ l.length ∧ i = .int .i64 (k : Int) ∧ Hid (Own 5 wr base v (out ++ 91 :: lsT l k) ∧ Kp base w wr)) (fun _ i _ => l.length - (intOf i).toNat)
 case atStart => exact ⟨0, Nat.zero_le _, rfl, HS⟩
 case round =>
  obtain ⟨k, hk, rfl, HK⟩ := hrel
  have hwr := HK.out.2.size
  obtain ⟨ad1, n1, cp1, rfl⟩ := HK.out.1.form
  by_cases hlt : k < l.length
  · have g1 : (k : Int) < (l.length : Int) := by omega
    have g3 : (0 : Int) ≤ (k : Int) := by omega
    obtain ⟨b, off, a, n, c, a', n', c', rfl, hFb, _, hx, c0, c1, c2, c3, c4⟩ := RdJ.part HL.out.1 HL.out.2 hlt
    have hbb := HI.out.2.2 b hFb
    have HM : Hid (AppC l[k] ∧ mayV l[k] d = true) := Lib.hid ⟨HI.out.1 _ (List.getElem_mem hlt), mayL_mem HI.out.2.1 _ (List.getElem_mem hlt)⟩
    have HN : Hid (∀ h0 : k ≠ 0, lsT l (k + 1) = lsT l k ++ 44 :: prV l[k]) := Lib.hid (fun h0 => lsT_succ hlt h0)
    have HN0 : Hid (k = 0 → lsT l (k + 1) = prV l[k]) := Lib.hid (fun h0 => by subst h0; exact lsT_one hlt)
    obtain ⟨x, hxx⟩ : ∃ x, x = l[k] := ⟨_, rfl⟩
    rw [← hxx] at hx c0 c1 c2 HM HN HN0
    clear hxx
    have e0 := cell_kp HK.out.2 hbb c0
    have e1 := cell_kp HK.out.2 hbb c1
    have e2 := cell_kp HK.out.2 hbb c2
    have e3 := cell_kp HK.out.2 hbb c3
    have e4 := cell_kp HK.out.2 hbb c4
    clear c0 c1 c2 c3 c4
    obtain ⟨W2, hW2⟩ : ∃ W2, W2 = wr.alloc (.cells #[.int .i64 x.kind, .int .i64 x.n, str x.s, .slice a n c, .slice a' n' c'] 72) := ⟨_, rfl⟩
    have hk2 : Kp base wr W2 := by rw [hW2]; exact Kp.alloc _ (by omega)
    have hbx2 : W2.heap[wr.heap.size]? = some (.cells #[.int .i64 x.kind, .int .i64 x.n, str x.s, .slice a n c, .slice a' n' c'] 72 (0, 0)) := by rw [hW2]; exact heap_alloc_new wr _
    have HO2 : Hid (Own 5 W2 base (.slice ad1 n1 cp1) (out ++ 91 :: lsT l k)) := Lib.hid (by rw [hW2]; exact HK.out.1.alloc _)
    have HK2 := Lib.hid (HK.out.2.trans hk2)
    have hx2 := (hx.kp HI.out.2.2 HK2.out)
    have hs2 := hk2.size
    have hln := HX.out (k + 1) (by omega)
    by_cases h0 : k = 0
    · have y1 : decide ((0 : Int) < (k : Int)) = false := decide_eq_false (by omega)
      have y2 : decide (0 < k) = false := decide_eq_false (by omega)
      have hN := HN0.out h0
      rw [hN] at hln
      have hz : lsT l k = [] := by rw [h0]; rfl
      have CA := Lib.hid (HM.out.1 d F W2 _ _ _ base HM.out.2 hx2 HI.out.2.2 HO2.out (by omega) (by rw [hz]; simp; omega) (HT.out.on HK2.out.1))
      have HE : Hid (out ++ 91 :: lsT l k ++ prV x = out ++ 91 :: lsT l (k + 1)) := Lib.hid (by rw [hN, hz]; simp)
      clear hN hz hx hx2 hk2 HO2 HN HN0 HM h0
      go_wp2_with fail
      obtain ⟨b0, b1, b2, b3, b4⟩ := box5 hbx2
      rw [← hW2]
      clear hbx2 hW2 b0 b1 b2 b3 b4
      refine CA.out.mono ?_
      rintro e w3 ⟨v3, rfl, hown3, hk3⟩
      have HY := Lib.hid (And.intro (HE.out ▸ hown3) (HK2.out.trans hk3))
      clear hown3 hk3 CA HE
      go_wp2_with fail
      go_roundw
      case rel => exact ⟨k + 1, by omega, by go_num, HY⟩
      case measure => simp [intOf]; omega
    have y1 : decide ((0 : Int) < (k : Int)) = true := decide_eq_true (by omega)
    have y2 : decide (0 < k) = true := decide_eq_true (by omega)
    have hN := HN.out h0
    rw [hN] at hln
    simp only [List.length_append, List.length_cons] at hln
    have HE : Hid (out ++ 91 :: lsT l k ++ [44] ++ prV x = out ++ 91 :: lsT l (k + 1)) := Lib.hid (by rw [hN]; simp)
    have hol : (out ++ 91 :: lsT l k).length < 140737488355328 := by simp; omega
    have HHX := Lib.hid hx2
    have HBX := Lib.hid hbx2
    have hW3 : base ≤ W2.heap.size := by omega
    have hsz : W2.heap.size = wr.heap.size + 1 := by rw [hW2]; simp
    have HSZ := Lib.hid hsz
    clear hN hx hx2 hk2 HN HN0 h0 hbx2 hsz
    go_wp2_with (at_builtin; refine hold ?_)
    intro _
    rw [← hW2]
    refine bt.append1 rfl _ _ rfl base _ (out ++ 91 :: lsT l k) 44 _ rfl HO2.out (by rfl) (by rw [HSZ.out]; rfl) hol hW3 ?_
    intro v3 w3 hown3 hg3
    have hk3 : Kp base W2 w3 := Kp.grown HO2.out hg3 (Nat.le_refl _) hW3
    obtain ⟨ad3, n3, cp3, rfl⟩ := hown3.form
    have hs3 := hk3.size
    have CA := Lib.hid (HM.out.1 d F w3 _ _ _ base HM.out.2 (HHX.out.kp HI.out.2.2 hk3) HI.out.2.2 hown3 (by omega) (by simp; omega) (HT.out.on (HK2.out.trans hk3).1))
    have hbx3 := hk3.box HBX.out (by decide)
    obtain ⟨b0, b1, b2, b3, b4⟩ := box5 hbx3
    have HK3 := Lib.hid (HK2.out.trans hk3)
    clear hown3 hg3 hk3 HO2 hW2 HSZ HBX HHX HM hbx3
    go_wp2_with fail
    refine CA.out.mono ?_
    rintro e w4 ⟨v4, rfl, hown4, hk4⟩
    have HY := Lib.hid (And.intro (HE.out ▸ hown4) (HK3.out.trans hk4))
    clear hown4 hk4 CA HE b0 b1 b2 b3 b4
    go_wp2_with fail
    go_roundw
    case rel => exact ⟨k + 1, by omega, by go_num, HY⟩
    case measure => simp [intOf]; omega
  obtain rfl : k = l.length := by omega
  have g2 : ¬ (l.length : Int) < (l.length : Int) := by omega
  have hln := HX.out l.length (Nat.le_refl _)
  have hol : (out ++ 91 :: lsT l l.length).length < 140737488355328 := by simp; omega
  have HE : Hid (out ++ 91 :: lsT l l.length ++ [93] = out ++ 91 :: ((prT l).drop 1 ++ [93])) := Lib.hid (by rw [lsT_all]; simp)
  have hwb : base ≤ wr.heap.size := by omega
  go_wp2_with (at_builtin; refine hold ?_)
  intro _
  refine bt.append1 rfl _ _ rfl base _ (out ++ 91 :: lsT l l.length) 93 _ rfl HK.out.1 rfl rfl hol hwb ?_
  intro v3 w3 hown3 hg3
  have HY := Lib.hid (And.intro (HE.out ▸ hown3) (HK.out.2.trans (Kp.grown HK.out.1 hg3 (Nat.le_refl _) hwb)))
  clear hown3 hg3
  go_wp2_with fail
  go_ret
  exact ⟨_, rfl, HY.out.1, HY.out.2⟩
theorem appObj_any (l : List MemT) (IH : ∀ x ∈ l, AppC x.2) (d : Nat) (p : Option (List UInt8)) (F : Nat → Prop) (w : World) (al : Option Addr) (cl : Nat) (rows : List (List Value)) (vb : Value) (out : List UInt8) (base : Nat) (hm : mayM l p d = true) (h1 : RdFB F 6 w (.slice al l.length cl) rows) (h2 : RdM w F l rows)
 (hF : ∀ i, F i → i < base) (hown : Own 5 w base vb out) (hb : base ≤ w.heap.size) (hl : out.length + (123 :: ((prU l).drop 1 ++ [125])).length ≤ 70368744177664) (ht : TabJ base w) :
 Calls Tryz.prog 94 #[vb, .slice al l.length cl] w fun e w' => ∃ v', e = .returned v' ∧ Own 5 w' base v' (out ++ 123 :: ((prU l).drop 1 ++ [125])) ∧ Kp base w w' := by
 obtain ⟨ad, n, cp, rfl⟩ := hown.form
 have HO := Lib.hid hown
 have HL := Lib.hid (And.intro h1 h2)
 have HI := Lib.hid (And.intro IH (And.intro hm hF))
 have HT := Lib.hid ht
 have HX : Hid (∀ k, k ≤ l.length → (obT l k).length ≤ ((prU l).drop 1).length) := Lib.hid (fun k hk => obT_le l hk)
 have hl' : out.length + ((prU l).drop 1).length + 2 ≤ 70368744177664 := by simp only [List.length_cons, List.length_append, List.length_nil] at hl; omega
 have hlen := h1.lens.2.1
 clear hown h1 h2 IH hm hF ht hl
 go_enter Tryz.func94, Tryz.ntmps94
 go_wp2_with (at_builtin; refine hold ?_)
 intro _
 refine bt.append1 rfl _ _ rfl base _ out 123 _ rfl HO.out rfl rfl (by omega) hb ?_
 intro v1 w1 hown1 hg1
 have hk1 : Kp base w w1 := Kp.grown HO.out hg1 (Nat.le_refl _) hb
 have HS : Hid (Own 5 w1 base v1 (out ++ 123 :: obT l 0) ∧ Kp base w w1) := Lib.hid ⟨hown1, hk1⟩
 clear hown1 hg1 hk1
 go_wp2_with fail
 go_loopw [0, 12] (fun v i wr => ∃ k : Nat, k ≤ l.length ∧ i = .int .i64 (k : Int) ∧ Hid (Own 5 wr base v (out ++ 123 :: obT l k) ∧ Kp base w wr)) (fun _ i _ => l.length - (intOf i).toNat)
 case atStart => exact ⟨0, Nat.zero_le _, rfl, HS⟩
 case round =>
  obtain ⟨k, hk, rfl, HK⟩ := hrel
  have hwr := HK.out.2.size
  obtain ⟨ad1, n1, cp1, rfl⟩ := HK.out.1.form
  by_cases hlt : k < l.length
  · have g1 : (k : Int) < (l.length : Int) := by omega
    have g3 : (0 : Int) ≤ (k : Int) := by omega
    obtain ⟨b, off, a, n, c, a', n', c', rfl, hFb, _, hx, c0, c1, c2, c3, c4, c5⟩ := RdJ.memb HL.out.1 HL.out.2 hlt
    have hbb := HI.out.2.2 b hFb
    have HM : Hid (AppC l[k].2 ∧ mayV l[k].2 d = true) := Lib.hid ⟨HI.out.1 _ (List.getElem_mem hlt), (mayM_mem HI.out.2.1 _ (List.getElem_mem hlt)).2⟩
    have HX2 : Hid (txF l[k].1 = true) := Lib.hid (mayM_mem HI.out.2.1 _ (List.getElem_mem hlt)).1
    have HN : Hid (∀ h0 : k ≠ 0, obT l (k + 1) = obT l k ++ 44 :: (quo l[k].1 ++ 58 :: prV l[k].2)) := Lib.hid (fun h0 => obT_succ hlt h0)
    have HN0 : Hid (k = 0 → obT l (k + 1) = quo l[k].1 ++ 58 :: prV l[k].2) := Lib.hid (fun h0 => by subst h0; exact obT_one hlt)
    obtain ⟨x, hxx⟩ : ∃ x, x = l[k] := ⟨_, rfl⟩
    rw [← hxx] at hx c0 c1 c2 c3 HM HN HN0 HX2
    clear hxx
    obtain ⟨nm, x⟩ := x
    dsimp only at hx c0 c1 c2 c3
    have e0 := cell_kp HK.out.2 hbb c0
    have e1 := cell_kp HK.out.2 hbb c1
    have e2 := cell_kp HK.out.2 hbb c2
    have e3 := cell_kp HK.out.2 hbb c3
    have e4 := cell_kp HK.out.2 hbb c4
    have e5 := cell_kp HK.out.2 hbb c5
    have HXW := Lib.hid hx
    clear c0 c1 c2 c3 c4 c5 hx
    have hln := HX.out (k + 1) (by omega)
    by_cases h0 : k = 0
    · have y1 : decide ((0 : Int) < (k : Int)) = false := decide_eq_false (by omega)
      have y2 : decide (0 < k) = false := decide_eq_false (by omega)
      have hN := HN0.out h0
      dsimp only at hN
      rw [hN] at hln
      simp only [List.length_append, List.length_cons] at hln
      have hz : obT l k = [] := by rw [h0]; rfl
      have hol : (out ++ 123 :: obT l k).length ≤ 70368744177664 := by rw [hz]; simp; omega
      have hol2 : (out ++ 123 :: obT l k ++ quo nm).length < 140737488355328 := by rw [hz]; simp; omega
      have hol3 : (out ++ 123 :: obT l k ++ quo nm ++ [58]).length + (prV x).length ≤ 70368744177664 := by rw [hz]; simp; omega
      have HE : Hid (out ++ 123 :: obT l k ++ quo nm ++ [58] ++ prV x = out ++ 123 :: obT l (k + 1)) := Lib.hid (by rw [hN, hz]; simp)
      clear hN hz HN HN0 h0 hln
      go_upto_region 7 with fail
      refine wp_any_world (fun W => (Own 5 W base (.slice ad1 n1 cp1) (out ++ 123 :: obT l k) ∧ Kp base w W) ∧ W.heap[wr.heap.size]? = some (.cells #[str nm, .int .i64 x.kind, .int .i64 x.n, str x.s, .slice a n c, .slice a' n' c'] 74 (0, 0))) ⟨⟨HK.out.1.alloc _, HK.out.2.trans (Kp.alloc _ (by omega))⟩, heap_alloc_new wr _⟩ ?_
      rintro w3 ⟨ho3, hb3⟩
      have HO3 := Lib.hid ho3
      have HB3 := Lib.hid hb3
      clear ho3 hb3
      have q0 := box_cell HB3.out 0
      have CT := Lib.hid (appText_any nm (out ++ 123 :: obT l k) _ base w3 HX2.out HO3.out.1 (by have := HO3.out.2.size; omega) hol)
      clear hol
      go_wp2_with fail
      refine CT.out.mono ?_
      rintro e w4 ⟨v4, rfl, hown4, hk4⟩
      obtain ⟨ad4, n4, cp4, rfl⟩ := hown4.form
      have hb4 := hk4.box HB3.out (by decide)
      have H4 : Hid (Own 5 w4 base (.slice ad4 n4 cp4) (out ++ 123 :: obT l k ++ quo nm) ∧ Kp base w w4 ∧ w4.heap[wr.heap.size]? = some (.cells #[str nm, .int .i64 x.kind, .int .i64 x.n, str x.s, .slice a n c, .slice a' n' c'] 74 (0, 0))) := Lib.hid ⟨hown4, HO3.out.2.trans hk4, hb4⟩
      have hb4' : base ≤ w4.heap.size := by have := H4.out.2.1.size; omega
      clear hown4 hk4 hb4 CT q0 HO3 HB3
      go_wp2_with (at_builtin; refine hold ?_)
      intro _
      refine bt.append1 rfl _ _ rfl base _ (out ++ 123 :: obT l k ++ quo nm) 58 _ rfl H4.out.1 rfl rfl hol2 hb4' ?_
      intro v5 w5 hown5 hg5
      obtain ⟨ad5, n5, cp5, rfl⟩ := hown5.form
      have hk5 : Kp base w4 w5 := Kp.grown H4.out.1 hg5 (Nat.le_refl _) hb4'
      have hb5 := hk5.box H4.out.2.2 (by decide)
      have q1 := box_cell hb5 1
      have q2 := box_cell hb5 2
      have q3 := box_cell hb5 3
      have q4 := box_cell hb5 4
      have q5 := box_cell hb5 5
      have HK5 := Lib.hid (H4.out.2.1.trans hk5)
      have CA := Lib.hid (HM.out.1 d F w5 _ _ _ base HM.out.2 (HXW.out.kp HI.out.2.2 HK5.out) HI.out.2.2 hown5 (by have := HK5.out.size; omega) hol3 (HT.out.on HK5.out.1))
      clear hown5 hg5 hk5 hb5 H4 HM HXW hol2 hol3 hb4'
      go_wp2_with fail
      refine CA.out.mono ?_
      rintro e w6 ⟨v6, rfl, hown6, hk6⟩
      have HY := Lib.hid (And.intro (HE.out ▸ hown6) (HK5.out.trans hk6))
      clear hown6 hk6 CA HE q1 q2 q3 q4 q5
      go_wp2_with fail
      go_roundw
      case rel => exact ⟨k + 1, by omega, by go_num, HY⟩
      case measure => simp [intOf]; omega
    have y1 : decide ((0 : Int) < (k : Int)) = true := decide_eq_true (by omega)
    have y2 : decide (0 < k) = true := decide_eq_true (by omega)
    have hN := HN.out h0
    dsimp only at hN
    rw [hN] at hln
    simp only [List.length_append, List.length_cons] at hln
    have hol0 : (out ++ 123 :: obT l k).length < 140737488355328 := by simp; omega
    have hol : (out ++ 123 :: obT l k ++ [44]).length ≤ 70368744177664 := by simp; omega
    have hol2 : (out ++ 123 :: obT l k ++ [44] ++ quo nm).length < 140737488355328 := by simp; omega
    have hol3 : (out ++ 123 :: obT l k ++ [44] ++ quo nm ++ [58]).length + (prV x).length ≤ 70368744177664 := by simp; omega
    have HE : Hid (out ++ 123 :: obT l k ++ [44] ++ quo nm ++ [58] ++ prV x = out ++ 123 :: obT l (k + 1)) := Lib.hid (by rw [hN]; simp)
    obtain ⟨W2, hW2⟩ : ∃ W2, W2 = wr.alloc (.cells #[str nm, .int .i64 x.kind, .int .i64 x.n, str x.s, .slice a n c, .slice a' n' c'] 74) := ⟨_, rfl⟩
    have HW2 : Hid (Own 5 W2 base (.slice ad1 n1 cp1) (out ++ 123 :: obT l k) ∧ Kp base w W2 ∧ W2.heap[wr.heap.size]? = some (.cells #[str nm, .int .i64 x.kind, .int .i64 x.n, str x.s, .slice a n c, .slice a' n' c'] 74 (0, 0)) ∧ W2.heap.size = wr.heap.size + 1) := Lib.hid (by rw [hW2]; exact ⟨HK.out.1.alloc _, HK.out.2.trans (Kp.alloc _ (by omega)), heap_alloc_new wr _, by simp⟩)
    have hW3 : base ≤ W2.heap.size := by have := HW2.out.2.1.size; omega
    clear hN HN HN0 h0 hln
    go_wp2_with (at_builtin; refine hold ?_)
    intro _
    rw [← hW2]
    refine bt.append1 rfl _ _ rfl base _ (out ++ 123 :: obT l k) 44 _ rfl HW2.out.1 (by rfl) (by rw [HW2.out.2.2.2]; rfl) hol0 hW3 ?_
    intro v3 w3 hown3 hg3
    have hk3 : Kp base W2 w3 := Kp.grown HW2.out.1 hg3 (Nat.le_refl _) hW3
    obtain ⟨ad3, n3, cp3, rfl⟩ := hown3.form
    have HB3 := Lib.hid (hk3.box HW2.out.2.2.1 (by decide))
    have HO3 := Lib.hid (And.intro hown3 (HW2.out.2.1.trans hk3))
    clear hown3 hg3 hk3 hW2 HW2 hW3 hol0
    go_upto_region 7 with fail
    have q0 := box_cell HB3.out 0
    have CT := Lib.hid (appText_any nm (out ++ 123 :: obT l k ++ [44]) _ base w3 HX2.out HO3.out.1 (by have := HO3.out.2.size; omega) hol)
    clear hol
    go_wp2_with fail
    refine CT.out.mono ?_
    rintro e w4 ⟨v4, rfl, hown4, hk4⟩
    obtain ⟨ad4, n4, cp4, rfl⟩ := hown4.form
    have hb4 := hk4.box HB3.out (by decide)
    have H4 : Hid (Own 5 w4 base (.slice ad4 n4 cp4) (out ++ 123 :: obT l k ++ [44] ++ quo nm) ∧ Kp base w w4 ∧ w4.heap[wr.heap.size]? = some (.cells #[str nm, .int .i64 x.kind, .int .i64 x.n, str x.s, .slice a n c, .slice a' n' c'] 74 (0, 0))) := Lib.hid ⟨hown4, HO3.out.2.trans hk4, hb4⟩
    have hb4' : base ≤ w4.heap.size := by have := H4.out.2.1.size; omega
    clear hown4 hk4 hb4 CT q0 HO3 HB3
    go_wp2_with (at_builtin; refine hold ?_)
    intro _
    refine bt.append1 rfl _ _ rfl base _ (out ++ 123 :: obT l k ++ [44] ++ quo nm) 58 _ rfl H4.out.1 rfl rfl hol2 hb4' ?_
    intro v5 w5 hown5 hg5
    obtain ⟨ad5, n5, cp5, rfl⟩ := hown5.form
    have hk5 : Kp base w4 w5 := Kp.grown H4.out.1 hg5 (Nat.le_refl _) hb4'
    have hb5 := hk5.box H4.out.2.2 (by decide)
    have q1 := box_cell hb5 1
    have q2 := box_cell hb5 2
    have q3 := box_cell hb5 3
    have q4 := box_cell hb5 4
    have q5 := box_cell hb5 5
    have HK5 := Lib.hid (H4.out.2.1.trans hk5)
    have CA := Lib.hid (HM.out.1 d F w5 _ _ _ base HM.out.2 (HXW.out.kp HI.out.2.2 HK5.out) HI.out.2.2 hown5 (by have := HK5.out.size; omega) hol3 (HT.out.on HK5.out.1))
    clear hown5 hg5 hk5 hb5 H4 HM HXW hol2 hol3 hb4'
    go_wp2_with fail
    refine CA.out.mono ?_
    rintro e w6 ⟨v6, rfl, hown6, hk6⟩
    have HY := Lib.hid (And.intro (HE.out ▸ hown6) (HK5.out.trans hk6))
    clear hown6 hk6 CA HE q1 q2 q3 q4 q5
    go_wp2_with fail
    go_roundw
    case rel => exact ⟨k + 1, by omega, by go_num, HY⟩
    case measure => simp [intOf]; omega
  obtain rfl : k = l.length := by omega
  have g2 : ¬ (l.length : Int) < (l.length : Int) := by omega
  have hln := HX.out l.length (Nat.le_refl _)
  have hol : (out ++ 123 :: obT l l.length).length < 140737488355328 := by simp; omega
  have HE : Hid (out ++ 123 :: obT l l.length ++ [125] = out ++ 123 :: ((prU l).drop 1 ++ [125])) := Lib.hid (by rw [obT_all]; simp)
  have hwb : base ≤ wr.heap.size := by omega
  go_wp2_with (at_builtin; refine hold ?_)
  intro _
  refine bt.append1 rfl _ _ rfl base _ (out ++ 123 :: obT l l.length) 125 _ rfl HK.out.1 rfl rfl hol hwb ?_
  intro v3 w3 hown3 hg3
  have HY := Lib.hid (And.intro (HE.out ▸ hown3) (HK.out.2.trans (Kp.grown HK.out.1 hg3 (Nat.le_refl _) hwb)))
  clear hown3 hg3
  go_wp2_with fail
  go_ret
  exact ⟨_, rfl, HY.out.1, HY.out.2⟩
theorem app_step (v : JV) (IHL : ∀ x ∈ v.l, AppC x) (IHM : ∀ x ∈ v.m, AppC x.2) : AppC v := by
 intro d F w cs vb out base hm h hF hown hb hl ht
 obtain ⟨al, ll, cl, am, lm, cm, rfl, ⟨rl, hrl, hll, rfl⟩, rm, hrm, hmm, rfl⟩ := h.open
 clear h
 obtain ⟨ad, n0, cp, rfl⟩ := hown.form
 rw [mayV_mk] at hm
 obtain ⟨k, n, s, l, m⟩ := v
 dsimp only [JV.kind, JV.n, JV.s, JV.l, JV.m] at *
 simp only [Bool.and_eq_true, decide_eq_true_eq] at hm
 have hk : k = 1 ∨ k = 2 ∨ k = 3 ∨ k = 4 ∨ k = 5 ∨ k = 6 ∨ k = 7 := by
  have h1 := of_decide_eq_true hm.1.1.1.1.2
  have h2 := of_decide_eq_true hm.1.1.1.2
  omega
 have HO := Lib.hid hown
 clear hown
 rcases hk with rfl | rfl | rfl | rfl | rfl | rfl | rfl
 · have e1 : prV (.mk 1 n s l m) = [110, 117, 108, 108] := rfl
   rw [e1] at hl ⊢
   clear e1 ht hF hrl hll hrm hmm IHL IHM hm
   go_enter Tryz.func72, Tryz.ntmps72
   go_wp2_with (at_builtin; refine hold ?_)
   intro _
   refine bt.appendT Tryz.underlying9 rfl _ _ rfl base _ out [110, 117, 108, 108] (HO.out.alloc _) rfl rfl (by simp at hl ⊢; omega) (by simp; omega) ?_
   intro v2 w2 hown2 hg2
   have HX := Lib.hid (And.intro hown2 ((Kp.alloc _ hb).trans (Kp.grown (HO.out.alloc _) hg2 (Nat.le_refl _) (by simp; omega))))
   clear hg2 hown2
   go_wp2_with fail
   go_ret
   exact ⟨_, rfl, HX.out.1, HX.out.2⟩
 · have e1 : prV (.mk 2 n s l m) = [102, 97, 108, 115, 101] := rfl
   rw [e1] at hl ⊢
   clear e1 ht hF hrl hll hrm hmm IHL IHM hm
   go_enter Tryz.func72, Tryz.ntmps72
   go_wp2_with (at_builtin; refine hold ?_)
   intro _
   refine bt.appendT Tryz.underlying9 rfl _ _ rfl base _ out [102, 97, 108, 115, 101] (HO.out.alloc _) rfl rfl (by simp at hl ⊢; omega) (by simp; omega) ?_
   intro v2 w2 hown2 hg2
   have HX := Lib.hid (And.intro hown2 ((Kp.alloc _ hb).trans (Kp.grown (HO.out.alloc _) hg2 (Nat.le_refl _) (by simp; omega))))
   clear hg2 hown2
   go_wp2_with fail
   go_ret
   exact ⟨_, rfl, HX.out.1, HX.out.2⟩
 · have e1 : prV (.mk 3 n s l m) = [116, 114, 117, 101] := rfl
   rw [e1] at hl ⊢
   clear e1 ht hF hrl hll hrm hmm IHL IHM hm
   go_enter Tryz.func72, Tryz.ntmps72
   go_wp2_with (at_builtin; refine hold ?_)
   intro _
   refine bt.appendT Tryz.underlying9 rfl _ _ rfl base _ out [116, 114, 117, 101] (HO.out.alloc _) rfl rfl (by simp at hl ⊢; omega) (by simp; omega) ?_
   intro v2 w2 hown2 hg2
   have HX := Lib.hid (And.intro hown2 ((Kp.alloc _ hb).trans (Kp.grown (HO.out.alloc _) hg2 (Nat.le_refl _) (by simp; omega))))
   clear hg2 hown2
   go_wp2_with fail
   go_ret
   exact ⟨_, rfl, HX.out.1, HX.out.2⟩
 · have e1 : prV (.mk 4 n s l m) = Lib.itoa n := rfl
   rw [e1] at hl ⊢
   have hfit := hm.1.1.2
   simp only [fitV, Bool.and_eq_true, decide_eq_true_eq] at hfit
   have hn1 : -9007199254740991 ≤ n := hfit.1.1.1.1.1.2
   have hn2 : n ≤ 9007199254740991 := hfit.1.1.1.1.2
   have CI := Lib.hid (Tryz.strconv_AppendInt_10 base out.length n (by omega) (by omega) (.slice ad n0 cp) (out.map bv) _ (HO.out.alloc (.cells #[.int .i64 4, .int .i64 n, str s, .slice al l.length cl, .slice am m.length cm] 72)) (by simp; omega) (by omega) (ht.on (Kp.alloc _ hb).1))
   clear e1 ht hF hrl hll hrm hmm IHL IHM hm hfit hn1 hn2
   go_enter Tryz.func72, Tryz.ntmps72
   go_wp2_with fail
   refine CI.out.mono ?_
   rintro e w2 ⟨v2, rfl, hown2, hb2, hk2⟩
   have HX : Hid (Own 5 w2 base v2 (out ++ Lib.itoa n) ∧ Kp base w w2) := Lib.hid ⟨by
    unfold Own
    have e2 : Lib.byteCells (Lib.itoa n) = (Lib.itoa n).map bv := rfl
    rw [e2] at hown2
    simpa using hown2, (Kp.alloc _ hb).trans ⟨hb2, hk2⟩⟩
   clear hown2 hb2 hk2 CI
   go_wp2_with fail
   go_ret
   exact ⟨_, rfl, HX.out.1, HX.out.2⟩
 · have e1 : prV (.mk 5 n s l m) = quo s := rfl
   rw [e1] at hl ⊢
   have hfit := hm.1.1.2
   simp only [fitV, Bool.and_eq_true, decide_eq_true_eq] at hfit
   have hx : txF s = true := hfit.1.1.2
   have CI := Lib.hid (appText_any s out (.slice ad n0 cp) base _ hx (HO.out.alloc (.cells #[.int .i64 5, .int .i64 n, str s, .slice al l.length cl, .slice am m.length cm] 72)) (by simp; omega) (by omega))
   clear e1 ht hF hrl hll hrm hmm IHL IHM hm hfit hx
   go_enter Tryz.func72, Tryz.ntmps72
   go_wp2_with fail
   refine CI.out.mono ?_
   rintro e w2 ⟨v2, rfl, hown2, hk2⟩
   have HX := Lib.hid (And.intro hown2 ((Kp.alloc _ hb).trans hk2))
   clear hown2 hk2 CI
   go_wp2_with fail
   go_ret
   exact ⟨_, rfl, HX.out.1, HX.out.2⟩
 · have e1 : prV (.mk 6 n s l m) = 91 :: ((prT l).drop 1 ++ [93]) := rfl
   rw [e1] at hl ⊢
   have ka : Kp base w (w.alloc (.cells #[.int .i64 6, .int .i64 n, str s, .slice al l.length cl, .slice am m.length cm] 72)) := Kp.alloc _ hb
   have hg : ∀ i, F i → ¬ (base ≤ i) := fun i hi e => by have := hF i hi; omega
   have fr : Frm (fun i => base ≤ i) w (w.alloc (.cells #[.int .i64 6, .int .i64 n, str s, .slice al l.length cl, .slice am m.length cm] 72)) := Frm.of_below (below_alloc _ _)
   have CI := Lib.hid (appList_any l IHL (d - 1) F _ al cl _ (.slice ad n0 cp) out base hm.1.2 (hrl.frm fr hg) (hll.frm fr hg) hF (HO.out.alloc _) (by simp; omega) hl (ht.on ka.1))
   clear e1 ht hF hrl hll hrm hmm IHL IHM hm ka hg fr
   go_enter Tryz.func72, Tryz.ntmps72
   go_wp2_with fail
   refine CI.out.mono ?_
   rintro e w2 ⟨v2, rfl, hown2, hk2⟩
   have HX := Lib.hid (And.intro hown2 ((Kp.alloc _ hb).trans hk2))
   clear hown2 hk2 CI
   go_wp2_with fail
   go_ret
   exact ⟨_, rfl, HX.out.1, HX.out.2⟩
 have e1 : prV (.mk 7 n s l m) = 123 :: ((prU m).drop 1 ++ [125]) := rfl
 rw [e1] at hl ⊢
 have ka : Kp base w (w.alloc (.cells #[.int .i64 7, .int .i64 n, str s, .slice al l.length cl, .slice am m.length cm] 72)) := Kp.alloc _ hb
 have hg : ∀ i, F i → ¬ (base ≤ i) := fun i hi e => by have := hF i hi; omega
 have fr : Frm (fun i => base ≤ i) w (w.alloc (.cells #[.int .i64 7, .int .i64 n, str s, .slice al l.length cl, .slice am m.length cm] 72)) := Frm.of_below (below_alloc _ _)
 have CI := Lib.hid (appObj_any m IHM (d - 1) none F _ am cm _ (.slice ad n0 cp) out base hm.2 (hrm.frm fr hg) (hmm.frm fr hg) hF (HO.out.alloc _) (by simp; omega) hl (ht.on ka.1))
 clear e1 ht hF hrl hll hrm hmm IHL IHM hm ka hg fr
 go_enter Tryz.func72, Tryz.ntmps72
 go_wp2_with fail
 refine CI.out.mono ?_
 rintro e w2 ⟨v2, rfl, hown2, hk2⟩
 have HX := Lib.hid (And.intro hown2 ((Kp.alloc _ hb).trans hk2))
 clear hown2 hk2 CI
 go_wp2_with fail
 go_ret
 exact ⟨_, rfl, HX.out.1, HX.out.2⟩
theorem appValue_any (v : JV) : AppC v := JV.ind app_step v
theorem print_no {F : Nat → Prop} {w : World} {v : JV} {cs : List Value} (h : RdJ w F v cs) (hm : mayV v 64 = false) :
 Calls Tryz.prog 55 #[.agg cs.toArray] w fun e w' => e = .returned (.tuple #[.slice none 0 0, .int .i64 4]) ∧ Below w.heap.size w w' := by
 obtain ⟨al, ll, cl, am, lm, cm, rfl, _, _⟩ := h.open
 have CM := Lib.hid (jmay_any (h.up (below_alloc w (.cells #[.int .i64 v.kind, .int .i64 v.n, str v.s, .slice al ll cl, .slice am lm cm] 72))))
 rw [hm] at CM
 clear h hm
 go_enter Tryz.func55, Tryz.ntmps55
 go_wp2_with fail
 refine CM.out.mono ?_
 rintro e w1 ⟨rfl, hb⟩
 have HX := Lib.hid ((below_alloc w _).trans (hb.mono (by simp)))
 clear hb CM
 go_wp2_with fail
 go_ret2
 exact ⟨rfl, HX.out⟩
theorem print_yes {F : Nat → Prop} {w : World} {v : JV} {cs : List Value} (h : RdJ w F v cs) (hm : mayV v 64 = true) (hl : (prV v).length ≤ 70368744177664) (ht : TabJ w.heap.size w) :
 Calls Tryz.prog 55 #[.agg cs.toArray] w fun e w' => ∃ v', e = .returned (.tuple #[v', .int .i64 0]) ∧ Own 5 w' w.heap.size v' (prV v) ∧ Below w.heap.size w w' := by
 obtain ⟨al, ll, cl, am, lm, cm, rfl, _, _⟩ := h.open
 have CM := Lib.hid (jmay_any (h.up (below_alloc w (.cells #[.int .i64 v.kind, .int .i64 v.n, str v.s, .slice al ll cl, .slice am lm cm] 72))))
 rw [hm] at CM
 have hh := h.mono (G := fun i => i < w.heap.size) (fun i hi _ => hi)
 have HJ := Lib.hid (And.intro hh (And.intro hm (And.intro hl ht)))
 clear h hm hh hl ht
 go_enter Tryz.func55, Tryz.ntmps55
 go_wp2_with fail
 refine CM.out.mono ?_
 rintro e w1 ⟨rfl, hb⟩
 have hb1 := (below_alloc w (.cells #[.int .i64 v.kind, .int .i64 v.n, str v.s, .slice al ll cl, .slice am lm cm] 72)).trans (hb.mono (by simp))
 have hx := box_up (heap_alloc_new w (.cells #[.int .i64 v.kind, .int .i64 v.n, str v.s, .slice al ll cl, .slice am lm cm] 72)) hb
 obtain ⟨b0, b1, b2, b3, b4⟩ := box5 hx
 have CA := Lib.hid (appValue_any v 64 (fun i => i < w.heap.size) w1 _ (.slice none 0 0) [] w.heap.size HJ.out.2.1 (HJ.out.1.up hb1) (fun _ h => h) (Own.nil _ _ _) hb1.size (by simpa using HJ.out.2.2.1) (HJ.out.2.2.2.on hb1))
 have HB1 := Lib.hid hb1
 clear hb hx hb1 CM
 go_wp2_with fail
 refine CA.out.mono ?_
 rintro e w2 ⟨v2, rfl, hown, hk⟩
 have HX := Lib.hid (And.intro hown (HB1.out.trans hk.1))
 clear hown hk CA b0 b1 b2 b3 b4
 go_wp2_with fail
 go_ret2
 exact ⟨_, rfl, HX.out.1, HX.out.2⟩
end Go.Proofs.YtegblhmcfemfgaaGreatDoor
