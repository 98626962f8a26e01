/- Slices of slices of bytes that read as lists of lists of bytes; hblref's Bytes, CopyBytes, Lists. -/
import Derived.Test.YtainkmbjllklaaaDoorLRow
import Derived.Test.YtainkmbjllklaaaDoorRdV
import Derived.Test.YtainkmbjllklaaaDoorFBt
import Derived.Deep.QuietTactic
import Derived.Deep.RegionHeld3
import Derived.BigQuiet
namespace Go.Proofs.YtainkmbjllklaaaDoor
open Go.RowKit

/-- A slice is nil, or lies somewhere. -/
def Shp (v : Value) : Prop := v = .slice none 0 0 ∨ ∃ ad n c, v = .slice (some ad) n c ∧ n ≤ c ∧ c ≤ maxLen
/-- Each of some slices reads as its bytes. -/
structure Eachs (w : World) (vs : List Value) (rs : List (List UInt8)) : Prop where
  len : vs.length = rs.length
  rd : ∀ i (h : i < vs.length) (h' : i < rs.length), Rd w vs[i] rs[i]
theorem Eachs.below {B : Nat} {w w' : World} {vs : List Value} {rs : List (List UInt8)} (h : Eachs w vs rs) (hb : Below B w w') (hB : w.heap.size ≤ B) : Eachs w' vs rs := ⟨h.len, fun i h4 h5 => (h.rd i h4 h5).below hb hB⟩
theorem Eachs.nil (w : World) : Eachs w [] [] := ⟨rfl, fun _ h => absurd h (Nat.not_lt_zero _)⟩
theorem Eachs.append {w : World} {vs ws : List Value} {rs ss : List (List UInt8)} (h : Eachs w vs rs) (k : Eachs w ws ss) : Eachs w (vs ++ ws) (rs ++ ss) := by
  refine ⟨by simp [h.len, k.len], fun i h1 h2 => ?_⟩
  have hl := h.len
  by_cases hi : i < vs.length
  · rw [List.getElem_append_left hi, List.getElem_append_left (by omega)]
    exact h.rd i hi _
  · rw [List.getElem_append_right (by omega), List.getElem_append_right (by omega)]
    simp only [hl]
    exact k.rd _ _ _
theorem Eachs.one {w : World} {vs : List Value} {rs : List (List UInt8)} (h : Eachs w vs rs) : ∀ u ∈ vs, u.oneCell' = true := by
  intro u hu
  obtain ⟨i, hi, rfl⟩ := List.mem_iff_getElem.1 hu
  obtain ⟨a, c, e, _⟩ := h.rd i hi (by rw [← h.len]; exact hi)
  rw [e]
  rfl
theorem Each.rds {w : World} {E : TypeId} {n0 : Nat} {vs : List Value} {rs : List (List UInt8)} (h : Each E n0 w vs rs) : Eachs w vs rs := ⟨h.len, fun i h1 h2 => (h.own i h1 h2).rd⟩
/-- A slice of slices that reads as a list of lists of bytes. -/
def LRd (w : World) (v : Value) (rs : List (List UInt8)) : Prop := ∃ vs, RdV w v vs ∧ Eachs w vs rs ∧ Shp v
theorem LRd.below {B : Nat} {w w' : World} {v : Value} {rs : List (List UInt8)} (h : LRd w v rs) (hb : Below B w w') (hB : w.heap.size ≤ B) : LRd w' v rs := by
  obtain ⟨vs, h1, h2, h3⟩ := h
  exact ⟨vs, h1.below hb hB, h2.below hb hB, h3⟩
theorem LRd.drewN {w : World} {v : Value} {rs : List (List UInt8)} (h : LRd w v rs) (q : Nat) : LRd (w.drewN q) v rs := by
  obtain ⟨vs, h1, h2, h3⟩ := h
  exact ⟨vs, h1.drewN q, ⟨h2.len, fun i h4 h5 => (h2.rd i h4 h5).drewN q⟩, h3⟩
theorem shp_row {w : World} {n0 s k : Nat} {S : TypeId} {v : Value} {vs : List Value} (h : w.ownsRow n0 S s v k vs) : Shp v := by
  rcases h.2 with ⟨rfl, _⟩ | ⟨g, cap, cur, rfl, _, _, _, _, _⟩
  · exact .inl rfl
  · exact .inr ⟨_, _, _, rfl, by assumption, by assumption⟩
theorem LRd.of_rds {w : World} {n0 : Nat} {S : TypeId} {v : Value} {vs : List Value} {rs : List (List UInt8)} (h : w.ownsRow n0 S 1 v vs.length vs) (he : Eachs w vs rs) : LRd w v rs :=
  ⟨vs, RdV.of_row h, he, shp_row h⟩
theorem LRd.of_row {w : World} {n0 : Nat} {S E : TypeId} {v : Value} {vs : List Value} {rs : List (List UInt8)} (h : w.ownsRow n0 S 1 v vs.length vs) (he : Each E n0 w vs rs) : LRd w v rs := LRd.of_rds h he.rds
theorem LRd.lens {w : World} {v : Value} {rs : List (List UInt8)} (h : LRd w v rs) : ∃ a cap, v = .slice a rs.length cap ∧ rs.length ≤ 9223372036854775807 := by
  obtain ⟨vs, ⟨a, cap, rfl, h1, _⟩, ⟨h2, _⟩, _⟩ := h
  exact ⟨a, cap, by rw [h2], by omega⟩
section
variable {P : Program} {ops : Array Oper} {rest : List Oper} {o : Oper} {a : Act} {Q : Exit → Act → World → Prop} {w : World}
/-- 'append(l, y...)', l a row of the call's own, y whatever slice of one-cell values; behind a guard or not. -/
theorem append_vals (hw : Region.wanted o (yielded ops a.tmps) = true) (s x : Operand) (t : TypeId) (ho : o.op = .call { callee := .builtin .append, args := #[s, x], argTypes := #[t, t] })
    (base : Nat) (e : TypeId) (i : TypeInfo) (z : Value) (bytes : Nat) (ht : P.underlying t = some (.slice e)) (hi : P.info? e = some i) (hz : i.zero = some z) (hsize : i.size = 1) (hby : i.bytes = bytes) (hzs : z.cells.size = 1)
    (v : Value) (xs : List Value) (hs : a.eval s = v) (hown : w.ownsRow base e 1 v xs.length xs) (y : Value) (ys : List Value) (hx : a.eval x = y) (hy : RdV w y ys) (hsh : Shp y) (h1 : ∀ u ∈ ys, u.oneCell' = true)
    (h63 : xs.length + ys.length ≤ maxLen) (hbytes : (xs.length + ys.length) * bytes ≤ 140737488355328) (hbase : base ≤ w.heap.size)
    (h : ∀ v' w', w'.ownsRow base e 1 v' (xs ++ ys).length (xs ++ ys) → w.grownBy w' v.ownBlock → wpList P ops Q rest (a.put o.dst v') w') : wpList P ops Q (o :: rest) a w := by
  refine wpList_step fun K hK => ?_
  rw [if_pos hw]
  obtain ⟨ad, cap, rfl, hn, hc⟩ := hy
  cases ad with
  | none =>
    rcases hsh with e1 | ⟨_, _, _, e1, _⟩
    · simp only [Value.slice.injEq, true_and] at e1
      obtain ⟨e2, rfl⟩ := e1
      obtain rfl : ys = [] := List.eq_nil_of_length_eq_zero e2
      have hrun := run_append_owned_none (P := P) (w := w) base t o.type e i 1 ht hi v xs.length xs hown
      unfold Oper.wp
      simp only [List.length_nil] at hx
      simp [execOp, ho, resolve, invoke, builtin, hs, hx, hrun, Result.andThen]
      exact hK _ _ (h v w (by rw [List.append_nil]; exact hown) ⟨rfl, rfl, rfl, Nat.le_refl _, fun _ _ _ => rfl⟩)
    · cases e1
  | some ad =>
    refine wp_append_own w s x t ho base e i z 1 bytes ht hi hz hsize hby hzs (by decide) v xs.length xs hs hown ad ys.length cap ys hx (by simp) ?_ h1 h63 hbytes hbase ?_
    · intro j u hj
      obtain ⟨hjl, hj⟩ := List.getElem?_eq_some_iff.1 hj
      obtain ⟨b, off, hab, hcell⟩ := hc (by intro e; subst e; simp at hjl)
      simp only [Option.some.injEq] at hab
      subst hab
      rw [Addr.add_lit, hcell j hjl, hj]
    · intro v' w' r1 r2 _
      exact hK _ _ (h v' w' (by rw [List.length_append]; exact r1) r2)
end
/-- One of them. -/
theorem LRd.at {w : World} {b off n cap : Nat} {rs : List (List UInt8)} (h : LRd w (.slice (some ⟨b, off, none⟩) n cap) rs) (k : Nat) (hk : k < rs.length) : ∃ v, w.cell? ⟨b, off + k, none⟩ = some v ∧ Rd w v rs[k] := by
  obtain ⟨vs, ⟨a, cap', hv, h1, h2⟩, ⟨h3, h4⟩, _⟩ := h
  obtain ⟨b', off', ha, hc⟩ := h2 (by intro e; subst e; simp at h3; omega)
  simp only [Value.slice.injEq] at hv
  obtain ⟨rfl, _, rfl⟩ := hv
  simp only [Option.some.injEq, Addr.mk.injEq] at ha
  obtain ⟨rfl, rfl, _⟩ := ha
  exact ⟨vs[k], hc k (by omega), h4 k (by omega) hk⟩
theorem LRd.some {w : World} {v : Value} {rs : List (List UInt8)} (h : LRd w v rs) (hne : 0 < rs.length) : ∃ b off cap, v = .slice (Option.some ⟨b, off, none⟩) rs.length cap := by
  obtain ⟨vs, ⟨a, cap, rfl, h1, h2⟩, ⟨h3, _⟩, _⟩ := h
  obtain ⟨b, off, rfl, _⟩ := h2 (by intro e; subst e; simp at h3; omega)
  exact ⟨b, off, cap, by rw [h3]⟩
/-- The first ones. -/
theorem LRd.take {w : World} {a : Option Addr} {n cap : Nat} {rs : List (List UInt8)} (h : LRd w (.slice a n cap) rs) (k : Nat) (hk : k ≤ rs.length) : LRd w (.slice a k cap) (rs.take k) := by
  obtain ⟨vs, ⟨a', cap', hv, h1, h2⟩, ⟨h3, h4⟩, h5⟩ := h
  simp only [Value.slice.injEq] at hv
  obtain ⟨rfl, rfl, rfl⟩ := hv
  refine ⟨vs.take k, ⟨a, cap, by simp; omega, by simp; omega, fun hne => ?_⟩, ⟨by simp [h3], fun i hi hi2 => ?_⟩, ?_⟩
  · obtain ⟨b, off, rfl, hc⟩ := h2 (by intro e; subst e; simp at hne)
    refine ⟨b, off, rfl, fun i hi => ?_⟩
    simp only [List.length_take] at hi
    rw [hc i (by omega)]
    simp
  · simp only [List.length_take] at hi
    simp only [List.getElem_take]
    exact h4 i (by omega) (by omega)
  · rcases h5 with e | ⟨ad, n, c, e, h6, h7⟩
    · simp only [Value.slice.injEq] at e
      obtain ⟨rfl, e, rfl⟩ := e
      exact .inl (by rw [show k = 0 by omega])
    · simp only [Value.slice.injEq] at e
      obtain ⟨rfl, rfl, rfl⟩ := e
      exact .inr ⟨_, _, _, rfl, by omega, h7⟩
theorem LRd.cap {w : World} {a : Option Addr} {n cap : Nat} {rs : List (List UInt8)} (h : LRd w (.slice a n cap) rs) : n = rs.length ∧ n ≤ cap ∧ (a = none → cap = 0) := by
  obtain ⟨vs, ⟨a', cap', hv, h1, h2⟩, ⟨h3, h4⟩, h5⟩ := h
  simp only [Value.slice.injEq] at hv
  obtain ⟨rfl, rfl, rfl⟩ := hv
  refine ⟨h3, ?_⟩
  rcases h5 with e | ⟨ad, n, c, e, h6, h7⟩
  · simp only [Value.slice.injEq] at e
    obtain ⟨rfl, e, rfl⟩ := e
    exact ⟨by omega, fun _ => rfl⟩
  · simp only [Value.slice.injEq] at e
    obtain ⟨rfl, rfl, rfl⟩ := e
    exact ⟨h6, fun e => by cases e⟩
theorem Rd.first {w : World} {a : Option Addr} {n cap : Nat} {l : List UInt8} (h : Rd w (.slice a n cap) l) (k : Nat) (hk : k ≤ l.length) : Rd w (.slice a k cap) (l.take k) := by
  cases a with
  | some ad =>
    rcases Nat.eq_zero_or_pos l.length with h0 | h0
    · obtain rfl := List.eq_nil_of_length_eq_zero h0
      obtain ⟨a', cap', hv, h1, h2, h3, h4⟩ := h
      simp only [Value.slice.injEq] at hv
      obtain ⟨rfl, rfl, rfl⟩ := hv
      simp at hk; subst hk
      exact ⟨_, _, rfl, Nat.zero_le _, h2, (fun e => by cases e), fun hne => absurd rfl hne⟩
    · obtain ⟨b, off, spot⟩ := ad
      have hs : spot = none := by
        obtain ⟨a', cap', hv, h1, h2, h3, h4⟩ := h
        obtain ⟨b', off', ha, _⟩ := h4 (by intro e; subst e; simp at h0)
        simp only [Value.slice.injEq] at hv
        obtain ⟨rfl, _⟩ := hv
        simp at ha
        exact ha.2.2
      subst hs
      exact h.take k hk
  | none =>
    obtain ⟨a', cap', hv, h1, h2, h3, h4⟩ := h
    simp only [Value.slice.injEq] at hv
    obtain ⟨rfl, rfl, rfl⟩ := hv
    have := h3 rfl
    obtain rfl := List.eq_nil_of_length_eq_zero (l := l) (by omega)
    simp at hk; subst hk
    exact ⟨_, _, rfl, Nat.zero_le _, h2, h3, fun hne => absurd rfl hne⟩
theorem copy_bytes (x : Value) (l : List UInt8) (w : World) (hx : Rd w x l) (hl : l.length ≤ 1000000000) :
    Calls Tryd.prog 7 #[x] w fun e w' => ∃ v, e = .returned v ∧ Own 5 w' w.heap.size v l ∧ Below w.heap.size w w' := by
  have HX := Lib.hid hx
  obtain ⟨xa, xc, rfl, _⟩ := hx
  go_enter Tryd.func7, Tryd.ntmps7
  go_wp2_with (at_builtin; refine hold ?_)
  intro _
  refine bt.appendS rfl _ _ rfl w.heap.size _ _ [] l (Own.made0 5 w) (HX.out.alloc _) rfl rfl (by simp; omega) (by simp) ?_
  intro v2 w2 hown2 hg2
  have hb2 : Below w.heap.size w w2 := (below_alloc w _).grown hg2 (by simp) (fun b e => ((Own.made0 5 w).base b e).1)
  rw [List.nil_append] at hown2
  have HZ := Lib.hid (And.intro hown2 hb2)
  clear hown2 hb2 hg2 HX
  go_wp2_with fail
  go_ret
  exact ⟨v2, rfl, HZ.out.1, HZ.out.2⟩
theorem bytes_any (a b : Value) (la lb : List UInt8) (w : World) (ha : Rd w a la) (hb : Rd w b lb) :
    Calls Tryd.prog 15 #[a, b] w fun e w' => e = .returned (.bool (decide (la = lb))) ∧ w' = w := by
  have c1 : (convert 22 9 a).run Tryd.prog w = .ok (str la) w := bt.toString Tryd.underlying9 ha
  have c2 : (convert 22 9 b).run Tryd.prog w = .ok (str lb) w := bt.toString Tryd.underlying9 hb
  obtain ⟨aa, ac, rfl, _⟩ := ha
  obtain ⟨ba, bc, rfl, _⟩ := hb
  have t1 : (la == lb) = decide (la = lb) := by by_cases h : la = lb <;> simp [h]
  go_enter Tryd.func15, Tryd.ntmps15
  go_wp2_with fail
  go_ret
  exact ⟨by first | rfl | (rw [t1]), rfl⟩
set_option maxHeartbeats 2000000 in
theorem lists_any (a b : Value) (la lb : List (List UInt8)) (w : World) (ha : LRd w a la) (hb : LRd w b lb) :
    Calls Tryd.prog 14 #[a, b] w fun e w' => e = .returned (.bool (decide (la = lb))) ∧ ∃ n, w' = w.drewN n := by
  obtain ⟨R, hR⟩ : ∃ R, R = decide (la = lb) := ⟨_, rfl⟩
  rw [← hR]
  have HR := Lib.hid hR
  clear hR
  have HA := Lib.hid ha
  have HB := Lib.hid hb
  obtain ⟨aa, ca, rfl, ha1⟩ := ha.lens
  obtain ⟨ab, cb, rfl, hb1⟩ := hb.lens
  clear ha hb
  by_cases hlen : la.length = lb.length
  · rw [← hlen] at hb1 ⊢
    have HL := Lib.hid hlen
    rw [← hlen] at HB
    clear hlen hb1
    go_enter Tryd.func14, Tryd.ntmps14
    go_wp2_with fail
    go_loopw [5] (fun i wr => ∃ k n : Nat, k ≤ la.length ∧ i = .int .i64 (k : Int) ∧ Hid (la.take k = lb.take k) ∧ wr = w.drewN n) (fun i _ => la.length - (intOf i).toNat)
    case atStart => exact ⟨0, 0, Nat.zero_le _, rfl, Lib.hid (by simp), rfl⟩
    case round =>
      obtain ⟨k, n, hk, rfl, HE, rfl⟩ := hrel
      by_cases hlt : k < la.length
      · have g1 : (k : Int) < (la.length : Int) := by omega
        have g2 : (0 : Int) ≤ (k : Int) := by omega
        obtain ⟨bA, oA, cA, eA⟩ := HA.out.some (by omega)
        obtain ⟨bB, oB, cB, eB⟩ := HB.out.some (by have := HL.out; omega)
        simp only [Value.slice.injEq] at eA eB
        obtain ⟨rfl, -, rfl⟩ := eA
        obtain ⟨rfl, -, rfl⟩ := eB
        obtain ⟨x, c1, hx⟩ := HA.out.at k hlt
        obtain ⟨y, c2, hy⟩ := HB.out.at k (by have := HL.out; omega)
        obtain ⟨p, hp⟩ : ∃ p, p = la[k] := ⟨_, rfl⟩
        obtain ⟨q, hq⟩ : ∃ q, q = lb[k]'(by have := HL.out; omega) := ⟨_, rfl⟩
        rw [← hp] at hx
        rw [← hq] at hy
        have C := Lib.hid (fun m => bytes_any x y p q (w.drewN m) (hx.drewN m) (hy.drewN m))
        have HP := Lib.hid (And.intro hp hq)
        clear hp hq hx hy HA HB
        by_cases hxy : p = q
        · have t1 : decide (p = q) = true := by simpa using hxy
          rw [t1] at C
          clear t1
          go_wp2_with fail
          go_region_held3 (fun w' => w'.cell? ⟨bA, oA + k, none⟩ = some x ∧ w'.cell? ⟨bB, oB + k, none⟩ = some y)
            (first | (exact ⟨c1, c2⟩) | go_keep)
            ((first | (go_at_call 15; refine (C.out _).mono ?_; rintro e w3 ⟨rfl, rfl⟩) | fail))
          all_goals
            clear C c1 c2
            go_wp2_with fail
            go_roundw
            case rel =>
              refine ⟨k + 1, _, by omega, by go_num, Lib.hid ?_, rfl⟩
              rw [List.take_add_one, List.take_add_one, HE.out, List.getElem?_eq_getElem hlt, List.getElem?_eq_getElem (by have := HL.out; omega), ← HP.out.1, ← HP.out.2, hxy]
            case measure => simp [intOf]; omega
        · have t1 : decide (p = q) = false := by simpa using hxy
          have e : false = R := by
            rw [HR.out]; symm
            simp only [decide_eq_false_iff_not]
            intro e
            apply hxy
            rw [HP.out.1, HP.out.2]
            simp [e]
          subst e
          rw [t1] at C
          clear t1
          go_wp2_with fail
          go_region_held3 (fun w' => w'.cell? ⟨bA, oA + k, none⟩ = some x ∧ w'.cell? ⟨bB, oB + k, none⟩ = some y)
            (first | (exact ⟨c1, c2⟩) | go_keep)
            ((first | (go_at_call 15; refine (C.out _).mono ?_; rintro e w3 ⟨rfl, rfl⟩) | fail))
          all_goals
            clear C c1 c2
            go_wp2_with fail
            go_ret
            exact ⟨rfl, _, rfl⟩
      · obtain rfl : k = la.length := by omega
        have g1 : ¬ (la.length : Int) < (la.length : Int) := by omega
        have e : true = R := by
          have := HE.out
          rw [List.take_length, HL.out, List.take_length] at this
          rw [HR.out, this]; simp
        subst e
        go_wp2_with fail
        go_ret
        exact ⟨rfl, n, rfl⟩
  · have e : false = R := by
      rw [HR.out]; symm; simp only [decide_eq_false_iff_not]
      intro e; rw [e] at hlen; exact hlen rfl
    subst e
    have g : ((la.length : Int) == (lb.length : Int)) = false := by simp; omega
    have g' : ¬ ((la.length : Int) = (lb.length : Int)) := by omega
    clear hlen HR HA HB
    go_enter Tryd.func14, Tryd.ntmps14
    go_wp2_with fail
    go_ret
    exact ⟨rfl, 0, rfl⟩
end Go.Proofs.YtainkmbjllklaaaDoor
