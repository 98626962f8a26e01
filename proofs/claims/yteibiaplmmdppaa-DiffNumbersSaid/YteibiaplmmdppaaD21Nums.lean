/- DiffNumbers: the walk. -/
import Derived.Test.YteibiaplmmdppaaD21First
import Derived.Test.YteibiaplmmdppaaD21NumM
import Derived.Test.YteibiaplmmdppaaCountSI
import Derived.Test.YteibiaplmmdppaaTISI
namespace Go.Proofs.Yteibiaplmmdppaa
open Go.RowKit

/-- An append of one slice behind a row of the call's own. -/
theorem wpList_appendV {P : Program} {w : World} {ops : Array Oper} {rest : List Oper} {o : Oper} {a : Act} {Q : Exit → Act → World → Prop} (hg : o.guard = none) (s x : Operand) (t : TypeId)
    (hop : o.op = Op.call { callee := Callee.builtin Builtin.append, args := #[s, x], argTypes := #[t, t] }) {base : Nat} {e : TypeId} {i : TypeInfo} {z : Value} {bytes : Nat} (h1 : P.underlying t = some (.slice e)) (h2 : P.info? e = some i) (h3 : i.zero = some z) (h4 : i.size = 1) (h5 : i.bytes = bytes)
    (h6 : z.cells.size = 1) {v y : Value} {k : Nat} {xs news : List Value} (hs : a.eval s = v) (hown : w.ownsRow base e 1 v k xs) (hx : a.eval x = y) (hy : SrcV w y news) (hu : ∀ u ∈ news, u.oneCell' = true)
    (b1 : k + news.length ≤ maxLen) (b2 : (k + news.length) * bytes ≤ 140737488355328) (b3 : base ≤ w.heap.size)
    (hK : ∀ v' w', w'.ownsRow base e 1 v' (k + news.length) (xs ++ news) → w.grownBy w' v.ownBlock → wpList P ops Q rest (a.put o.dst v') w') : wpList P ops Q (o :: rest) a w := by
  obtain ⟨ad, cap, rfl, hc1, hc2⟩ := hy
  cases ad with
  | none =>
    obtain rfl := hc1 rfl
    have hm : news = [] := by
      cases news with
      | nil => rfl
      | cons y t => obtain ⟨b, off, h, _⟩ := hc2 (by simp); cases h
    subst hm
    exact wpList_append_own_none hg s x t hop base e i 1 h1 h2 v k xs hs hown hx (hK v w (by rw [List.append_nil]; exact hown) ⟨rfl, rfl, rfl, Nat.le_refl _, fun _ _ _ => rfl⟩)
  | some ad =>
    refine wpList_append_own w hg s x t hop base e i z 1 bytes h1 h2 h3 h4 h5 h6 (by decide) v k xs hs hown ad news.length cap news hx (by simp) ?_ hu b1 b2 b3 (fun v' w' g1 g2 _ => hK v' w' g1 g2)
    intro j u hj
    have hjm : j < news.length := (List.getElem?_eq_some_iff.1 hj).1
    obtain ⟨b, off, hab, hcell⟩ := hc2 (by intro e; subst e; simp at hjm)
    simp only [Option.some.injEq] at hab
    subst hab
    rw [Addr.add_lit, hcell j hjm]
    simpa [hjm] using hj
theorem SrcV.up {w w' : World} {v : Value} {l : List Value} (h : SrcV w v l) (hb : Below w.heap.size w w') : SrcV w' v l := by
  obtain ⟨a, cap, hv, h1, h4⟩ := h
  refine ⟨a, cap, hv, h1, fun hl => ?_⟩
  obtain ⟨b, off, ha, hc⟩ := h4 hl
  refine ⟨b, off, ha, fun i hi => ?_⟩
  have := hc i hi
  rw [hb.cell (p := ⟨b, off + i, none⟩) (World.block_lt_of_cell? w _ this)]
  exact this
theorem texts_one (l : List (List UInt8)) : ∀ u ∈ l.map (str : List UInt8 → Value), u.oneCell' = true := by
  intro u hu
  obtain ⟨x, _, rfl⟩ := List.mem_map.1 hu
  rfl
def CopyTE (w : World) (l : List (List UInt8)) (e : Ending) (w' : World) : Prop := ∃ v, e = .returned v ∧ w'.ownsRow w.heap.size 9 1 v l.length (l.map str) ∧ Below w.heap.size w w'
theorem copyTexts_any (v : Value) (l : List (List UInt8)) (w : World) (hv : SrcV w v (l.map str)) (hl : l.length ≤ 1000000) : Calls Try.prog 27 #[v] w (CopyTE w l) := by
  obtain ⟨i0, hi, hz0, hz1, hz2⟩ := info_parts infoU
  have hM0 : (w.alloc (.cells #[] 9)).ownsRow w.heap.size 9 1 (.slice (some ⟨w.heap.size, 0, none⟩) 0 0) 0 [] := World.ownsRow_made w #[] 0 (Nat.le_refl _) (by decide) rfl
  have HM0 := Lib.hid (And.intro hM0 (hv.up (below_alloc w (.cells #[] 9))))
  clear hM0 hv
  go_enter Try.func27, Try.ntmps27
  go_wp2_with (at_builtin; refine hold ?_)
  intro _
  refine wpList_appendV (by rfl) _ _ 50 (by rfl) (base := w.heap.size) Try.underlying50 hi hz0 hz1 hz2 rfl (by rfl) HM0.out.1 (by rfl) HM0.out.2 (texts_one l) ?_ ?_ ?_ ?_
  · rw [List.length_map]; unfold maxLen; omega
  · rw [List.length_map]; omega
  · simp
  intro v3 wC ho hg
  have HC : Hid (CopyTE w l (.returned v3) wC) := Lib.hid ⟨v3, rfl, by simpa using ho, ((Below.refl _ _).alloc (Nat.le_refl _) _).grown hg (by simp) (fun j ej => (World.ownsRow.lt HM0.out.1 j ej).1)⟩
  clear ho hg HM0
  go_wp2_with fail
  go_ret
  exact HC.out
/-- Under way: so many texts are laid in each of two maps. -/
structure NumAt (w W : World) (b1 b2 k1 k2 : Nat) (la lb : List (List UInt8)) : Prop where
  hb : Below w.heap.size w W
  g1 : w.heap.size ≤ b1
  g2 : w.heap.size ≤ b2
  ne : b1 ≠ b2
  t1 : ∃ t, TISI W b1 k1 t ∧ prs t = numT (la.take k1)
  t2 : ∃ t, TISI W b2 k2 t ∧ prs t = numT (lb.take k2)
theorem NumAt.up {w W W' : World} {b1 b2 k1 k2 : Nat} {la lb : List (List UInt8)} (h : NumAt w W b1 b2 k1 k2 la lb) (hb : Below W.heap.size W W') : NumAt w W' b1 b2 k1 k2 la lb := by
  obtain ⟨h1, h2, h3, h4, ⟨ta, h5, h6⟩, ⟨tb, h7, h8⟩⟩ := h
  exact ⟨h1.trans (hb.mono h1.size), h2, h3, h4, ⟨ta, h5.below hb, h6⟩, ⟨tb, h7.below hb, h8⟩⟩
theorem NumAt.put1 {w W W' : World} {b1 b2 k1 k2 : Nat} {la lb : List (List UInt8)} {x : List UInt8} {n : Int} (h : NumAt w W b1 b2 k1 k2 la lb) {t : Tr} (ht : TISI W b1 k1 t) (hp : prs t = numT (la.take k1))
    (hs : numT (la.take (k1 + 1)) = insL (str x) (.int .i64 n) (numT (la.take k1))) (hm : MP W' b1 (putT (str x) (.int .i64 n) t)) (ho : Only b1 W W') (hb : Below b1 W W') : NumAt w W' b1 b2 (k1 + 1) k2 la lb := by
  obtain ⟨h1, h2, h3, h4, _, ⟨tb, h7, h8⟩⟩ := h
  obtain ⟨q1, q2⟩ := ht.put (v := .int .i64 n) ⟨_, rfl⟩ ⟨_, rfl⟩ hm
  exact ⟨h1.trans (hb.mono h2), h2, h3, h4, ⟨_, q1, by rw [q2, hp, hs]⟩, ⟨tb, h7.only ht ho h4.symm, h8⟩⟩
theorem NumAt.put2 {w W W' : World} {b1 b2 k1 k2 : Nat} {la lb : List (List UInt8)} {x : List UInt8} {n : Int} (h : NumAt w W b1 b2 k1 k2 la lb) {t : Tr} (ht : TISI W b2 k2 t) (hp : prs t = numT (lb.take k2))
    (hs : numT (lb.take (k2 + 1)) = insL (str x) (.int .i64 n) (numT (lb.take k2))) (hm : MP W' b2 (putT (str x) (.int .i64 n) t)) (ho : Only b2 W W') (hb : Below b2 W W') : NumAt w W' b1 b2 k1 (k2 + 1) la lb := by
  obtain ⟨h1, h2, h3, h4, ⟨ta, h5, h6⟩, _⟩ := h
  obtain ⟨q1, q2⟩ := ht.put (v := .int .i64 n) ⟨_, rfl⟩ ⟨_, rfl⟩ hm
  exact ⟨h1.trans (hb.mono h3), h2, h3, h4, ⟨ta, h5.only ht ho h4, h6⟩, ⟨_, q1, by rw [q2, hp, hs]⟩⟩
theorem difO_comm (a b : Option Value) : difO a b = difO b a := by
  rcases a with _ | a <;> rcases b with _ | b
  · rfl
  · cases b <;> rfl
  · cases a <;> rfl
  · cases a <;> cases b <;> first | rfl | (simp only [difO]; exact bne_comm)
theorem getT_int {t : Tr} {k : Value} (h : WS KSSI VSSI t) : getT k t = none ∨ ∃ n : Int, getT k t = some (.int .i64 n) := by
  cases e : getT k t with
  | none => exact .inl rfl
  | some x => obtain ⟨n, hn⟩ := getT_vsSI h e; exact .inr ⟨n, by rw [hn]⟩
theorem get_none {k : Value} {t : Tr} (b : Nat) (w : World) (h : MP w b t) (hw : WS KSSI VSSI t) (e : getT k t = none) (hk : KSSI k := by exact ⟨_, rfl⟩) :
    Calls Try.prog 28 #[.pointer (some ⟨b, 0, none⟩), k] w fun e w' => e = .returned (.tuple #[.int .i64 0, .bool false]) ∧ w = w' :=
  (mgetSI_any b k t w h hk hw).mono fun _ _ ⟨h1, h2⟩ => ⟨by rw [h1, e]; rfl, h2.symm⟩
theorem get_some {k : Value} {t : Tr} {n : Int} (b : Nat) (w : World) (h : MP w b t) (hw : WS KSSI VSSI t) (e : getT k t = some (.int .i64 n)) (hk : KSSI k := by exact ⟨_, rfl⟩) :
    Calls Try.prog 28 #[.pointer (some ⟨b, 0, none⟩), k] w fun e w' => e = .returned (.tuple #[.int .i64 n, .bool true]) ∧ w = w' :=
  (mgetSI_any b k t w h hk hw).mono fun _ _ ⟨h1, h2⟩ => ⟨by rw [h1, e]; rfl, h2.symm⟩
/-- Under way in the last loop: so many texts are unlike. -/
def cnt (s t : List (Value × Value)) (U : List (List UInt8)) (k : Nat) : Nat := (U.take k).countP (difB s t)
theorem cnt_le (s t : List (Value × Value)) (U : List (List UInt8)) (k : Nat) : cnt s t U k ≤ k := by
  unfold cnt
  have := List.countP_le_length (p := difB s t) (l := U.take k)
  rw [List.length_take] at this
  omega
theorem cnt_succ (s t : List (Value × Value)) (U : List (List UInt8)) {k : Nat} (h : k < U.length) : cnt s t U (k + 1) = cnt s t U k + if difB s t U[k] = true then 1 else 0 := by
  unfold cnt
  rw [List.take_succ_eq_append_getElem h, List.countP_append]
  simp [List.countP_cons]
theorem uniqF_len (l : List (List UInt8)) : (uniqF l).length ≤ l.length := by
  have gen : ∀ (l o : List (List UInt8)), (l.foldl (fun o x => insU x o) o).length ≤ o.length + l.length := by
    intro l
    induction l with
    | nil => intro o; simp
    | cons x t ih =>
      intro o
      have := ih (insU x o)
      have := insU_len x o
      simp only [List.foldl_cons, List.length_cons]
      omega
  have := gen l []
  unfold uniqF
  simpa using this
set_option maxRecDepth 100000 in
set_option maxHeartbeats 8000000 in
theorem nums_walk (va : Value) (la : List (List UInt8)) (vb : Value) (lb : List (List UInt8)) (w : World) (ha : RdV w va (la.map str)) (hna : SrcV w va (la.map str)) (_hsa : ∀ x ∈ la, x.length ≤ 9223372036854775807) (hb : RdV w vb (lb.map str)) (hnb : SrcV w vb (lb.map str)) (_hsb : ∀ x ∈ lb, x.length ≤ 9223372036854775807) :
    Calls Try.prog 5 #[va, vb] w fun e w' => e = .returned (.bool true) ∧ Below w.heap.size w w' := by
  obtain ⟨i0, hi, hz0, hz1, hz2⟩ := info_parts infoU
  obtain ⟨aa, ca, rfl, ha1, ha2⟩ := ha
  obtain ⟨ab, cb, rfl, hb1, hb2⟩ := hb
  simp only [List.length_map] at ha1 hb1 hna hnb ⊢
  have HA := Lib.hid (And.intro ha2 hna)
  have HB := Lib.hid (And.intro hb2 hnb)
  clear ha2 hna hb2 hnb _hsa _hsb
  go_enter Try.func5, Try.ntmps5
  go_wp2_with fail
  refine (d21first_any w).mono ?_
  rintro e w1 ⟨rfl, hb1'⟩
  have H1 := Lib.hid hb1'
  clear hb1'
  go_wp2_with fail
  refine (newSI_any w1).mono ?_
  rintro e w2 ⟨b1, rfl, hq1, hm1, hb2'⟩
  have H2 := Lib.hid (And.intro (H1.out.trans (hb2'.mono H1.out.size)) (And.intro hm1 (And.intro (show w.heap.size ≤ b1 by rw [hq1]; exact H1.out.size) (show b1 < w2.heap.size from hm1.lt))))
  clear hq1 hm1 hb2' H1
  go_wp2_with fail
  refine (newSI_any w2).mono ?_
  rintro e w3 ⟨b2, rfl, hq2, hm2, hb3'⟩
  have N3 : Hid (NumAt w w3 b1 b2 0 0 la lb) := Lib.hid ⟨H2.out.1.trans (hb3'.mono H2.out.1.size), H2.out.2.2.1, by rw [hq2]; exact H2.out.1.size, by have := H2.out.2.2.2; omega, ⟨.nil, TISI.nil (H2.out.2.1.below hb3'), rfl⟩, ⟨.nil, TISI.nil hm2, rfl⟩⟩
  clear hq2 hm2 hb3' H2
  by_cases hbig : 200 < la.length
  · have q1 : (200 : Int) < (la.length : Int) := by omega
    go_wp2_with fail
    refine (d21first_any _).mono ?_
    rintro e wZ ⟨rfl, hbZ⟩
    go_wp2_with fail
    go_ret
    exact ⟨rfl, N3.out.hb.trans (hbZ.mono N3.out.hb.size)⟩
  by_cases hbig2 : 200 < lb.length
  · have q1 : ¬ (200 : Int) < (la.length : Int) := by omega
    have q2 : (200 : Int) < (lb.length : Int) := by omega
    go_wp2_with fail
    refine (d21first_any _).mono ?_
    rintro e wZ ⟨rfl, hbZ⟩
    go_wp2_with fail
    go_ret
    exact ⟨rfl, N3.out.hb.trans (hbZ.mono N3.out.hb.size)⟩
  have q1 : ¬ (200 : Int) < (la.length : Int) := by omega
  have q2 : ¬ (200 : Int) < (lb.length : Int) := by omega
  go_wp2_with fail
  clear q1 q2
  go_loopw [7] (fun i wr => ∃ k : Nat, k ≤ la.length ∧ i = .int .i64 (k : Int) ∧ Hid (NumAt w wr b1 b2 k 0 la lb)) (fun i _ => la.length - (intOf i).toNat)
  case atStart => exact ⟨0, Nat.zero_le _, rfl, N3⟩
  case round =>
    obtain ⟨k, hk, rfl, HR⟩ := hrel
    clear N3
    by_cases hlt : k < la.length
    · have g3 : (k : Int) < (la.length : Int) := by omega
      have g4 : (0 : Int) ≤ (k : Int) := by omega
      obtain ⟨bA, oA, rfl, hA⟩ := HA.out.1 (by intro e; simp at e; rw [e] at hlt; simp at hlt)
      have HS := numT_succ hlt
      have c1 := hA k (by simpa using hlt)
      simp only [List.getElem_map] at c1
      obtain ⟨x, hx⟩ : ∃ x, x = la[k] := ⟨_, rfl⟩
      rw [← hx] at c1 HS
      replace HS := Lib.hid HS
      have d1 : wr.cell? ⟨bA, oA + k, none⟩ = some (str x) := (HR.out.hb.cell (p := ⟨bA, oA + k, none⟩) (World.block_lt_of_cell? w _ c1)).trans c1
      obtain ⟨t, ht, hp⟩ := HR.out.t1
      have CP := Lib.hid (mputSI_any b1 (str x) (.int .i64 ((k : Int) % 3)) t wr ht.mp ⟨_, rfl⟩ ⟨_, rfl⟩ ht.ws (by have := ht.ht; omega) (by have := ht.len; omega))
      have HT := Lib.hid (And.intro ht hp)
      clear hA hx c1 ht hp HA HB
      go_wp2_with fail
      refine CP.out.mono ?_
      rintro e w4 ⟨rfl, hm, ho, hb4⟩
      have HN : Hid (NumAt w w4 b1 b2 (k + 1) 0 la lb) := Lib.hid (HR.out.put1 HT.out.1 HT.out.2 HS.out hm ho hb4)
      clear hm ho hb4 CP
      go_wp2_with fail
      go_roundw
      case rel => exact ⟨k + 1, by omega, by go_num, HN⟩
      case measure => simp [intOf]; omega
    · obtain rfl : k = la.length := by omega
      have g3 : ¬ (la.length : Int) < (la.length : Int) := by omega
      obtain ⟨wX, hwX⟩ : ∃ wX, wX = wr := ⟨_, rfl⟩
      subst hwX
      go_wp2_with fail
      go_loopw [8] (fun i wr => ∃ k : Nat, k ≤ lb.length ∧ i = .int .i64 (k : Int) ∧ Hid (NumAt w wr b1 b2 la.length k la lb)) (fun i _ => lb.length - (intOf i).toNat)
      case atStart => exact ⟨0, Nat.zero_le _, rfl, HR⟩
      case round =>
        obtain ⟨k, hk2, rfl, HR2⟩ := hrel
        clear HR
        by_cases hlt : k < lb.length
        · have g3 : (k : Int) < (lb.length : Int) := by omega
          have g4 : (0 : Int) ≤ (k : Int) := by omega
          obtain ⟨bA, oA, rfl, hA⟩ := HB.out.1 (by intro e; simp at e; rw [e] at hlt; simp at hlt)
          have HS := numT_succ hlt
          have c1 := hA k (by simpa using hlt)
          simp only [List.getElem_map] at c1
          obtain ⟨x, hx⟩ : ∃ x, x = lb[k] := ⟨_, rfl⟩
          rw [← hx] at c1 HS
          replace HS := Lib.hid HS
          have d1 : wr.cell? ⟨bA, oA + k, none⟩ = some (str x) := (HR2.out.hb.cell (p := ⟨bA, oA + k, none⟩) (World.block_lt_of_cell? w _ c1)).trans c1
          obtain ⟨t, ht, hp⟩ := HR2.out.t2
          have CP := Lib.hid (mputSI_any b2 (str x) (.int .i64 ((k : Int) % 3)) t wr ht.mp ⟨_, rfl⟩ ⟨_, rfl⟩ ht.ws (by have := ht.ht; omega) (by have := ht.len; omega))
          have HT := Lib.hid (And.intro ht hp)
          clear hA hx c1 ht hp HA HB
          go_wp2_with fail
          refine CP.out.mono ?_
          rintro e w4 ⟨rfl, hm, ho, hb4⟩
          have HN : Hid (NumAt w w4 b1 b2 la.length (k + 1) la lb) := Lib.hid (HR2.out.put2 HT.out.1 HT.out.2 HS.out hm ho hb4)
          clear hm ho hb4 CP
          go_wp2_with fail
          go_roundw
          case rel => exact ⟨k + 1, by omega, by go_num, HN⟩
          case measure => simp [intOf]; omega
        · obtain rfl : k = lb.length := by omega
          have g3 : ¬ (lb.length : Int) < (lb.length : Int) := by omega
          obtain ⟨wY, hwY⟩ : ∃ wY, wY = wr := ⟨_, rfl⟩
          subst hwY
          obtain ⟨ta, hta, hpa⟩ := HR2.out.t1
          obtain ⟨tb, htb, hpb⟩ := HR2.out.t2
          rw [List.take_length] at hpa hpb
          have HT := Lib.hid (And.intro hta (And.intro hpa (And.intro htb hpb)))
          have HW := Lib.hid HR2.out.hb
          have SA := Lib.hid (HA.out.2.up HR2.out.hb)
          have SB := Lib.hid (HB.out.2.up HR2.out.hb)
          have CC := Lib.hid (copyTexts_any _ la wY SA.out (by omega))
          clear hta hpa htb hpb HA HB HR2 hk hk2 hlt
          go_wp2_with fail
          refine CC.out.mono ?_
          rintro e w4 ⟨v4, rfl, ho4, hb4⟩
          have HC := Lib.hid (And.intro ho4 (And.intro hb4 (SB.out.up hb4)))
          clear ho4 hb4 SA SB CC
          go_wp2_with (at_builtin; refine hold ?_)
          intro _
          refine wpList_appendV (by rfl) _ _ 50 (by rfl) (base := wY.heap.size) Try.underlying50 hi hz0 hz1 hz2 rfl (by rfl) HC.out.1 (by rfl) HC.out.2.2 (texts_one lb) ?_ ?_ ?_ ?_
          · rw [List.length_map]; unfold maxLen; omega
          · rw [List.length_map]; omega
          · exact HC.out.2.1.size
          intro v5 w5 ho5 hg5
          have H5 := Lib.hid (HC.out.2.1.grown hg5 HC.out.2.1.size (fun j ej => (World.ownsRow.lt HC.out.1 j ej).1))
          have CU := Lib.hid (unique_any v5 (la ++ lb) w5 (RdV.of_row (e := 9) (base := wY.heap.size) (by simpa using ho5)) (by rw [List.length_append]; omega))
          clear ho5 hg5 HC
          go_wp2_with fail
          refine CU.out.mono ?_
          rintro e w6 ⟨v6, rfl, hr6, hb6⟩
          have hlU : (uniqF (la ++ lb)).length ≤ 400 := by have := uniqF_len (la ++ lb); rw [List.length_append] at this; omega
          obtain ⟨U, hU⟩ : ∃ U, U = uniqF (la ++ lb) := ⟨_, rfl⟩
          rw [← hU] at hr6 hlU
          obtain ⟨a6, c6, rfl, _, h62⟩ := hr6
          simp only [List.length_map]
          have H6 := Lib.hid (H5.out.trans (hb6.mono H5.out.size))
          have HTb := Lib.hid (And.intro (HT.out.1.below H6.out) (And.intro HT.out.2.1 (And.intro (HT.out.2.2.1.below H6.out) HT.out.2.2.2)))
          have HRU := Lib.hid h62
          have HUU := Lib.hid hU
          clear hb6 H5 CU HT h62 hU
          go_wp2_with fail
          go_loop [9, 11] (fun n i => ∃ k c : Nat, k ≤ U.length ∧ c ≤ k ∧ i = .int .i64 (k : Int) ∧ n = .int .i64 (c : Int) ∧ Hid (c = cnt (prs ta) (prs tb) U k)) (fun _ i => U.length - (intOf i).toNat)
          case atStart => exact ⟨0, 0, Nat.zero_le _, Nat.le_refl _, rfl, rfl, Lib.hid (by simp [cnt])⟩
          case round =>
            obtain ⟨k, c, hk, hck, rfl, rfl, HC⟩ := hrel
            by_cases hlt : k < U.length
            · have g3 : (k : Int) < (U.length : Int) := by omega
              have g4 : (0 : Int) ≤ (k : Int) := by omega
              obtain ⟨bA, oA, rfl, hA⟩ := HRU.out (by intro e; simp at e; rw [e] at hlt; simp at hlt)
              have c1 := hA k (by simpa using hlt)
              simp only [List.getElem_map] at c1
              have hs := cnt_succ (prs ta) (prs tb) U hlt
              obtain ⟨x, hx⟩ : ∃ x, x = U[k] := ⟨_, rfl⟩
              rw [← hx] at c1 hs
              unfold difB at hs
              rw [← getT_eq ordSI ⟨_, rfl⟩ HTb.out.1.ws HTb.out.1.rs, ← getT_eq ordSI ⟨_, rfl⟩ HTb.out.2.2.1.ws HTb.out.2.2.1.rs, ← HC.out] at hs
              have hv1 := getT_int (k := str x) HTb.out.1.ws
              have hv2 := getT_int (k := str x) HTb.out.2.2.1.ws
              clear hA hx
              rcases hv1 with e1 | ⟨n1, e1⟩ <;> rcases hv2 with e2 | ⟨n2, e2⟩
              · have G1 := Lib.hid (get_none b1 w6 HTb.out.1.mp HTb.out.1.ws e1)
                have G2 := Lib.hid (get_none b2 w6 HTb.out.2.2.1.mp HTb.out.2.2.1.ws e2)
                rw [e1, e2, show difO none none = false from rfl] at hs
                have HS := Lib.hid hs
                clear hs e1 e2 HTb HRU HC
                go_wp2_with fail
                refine G1.out.mono ?_
                rintro e w7 ⟨rfl, rfl⟩
                go_wp2_with fail
                refine G2.out.mono ?_
                rintro e w7 ⟨rfl, rfl⟩
                go_wp2_with fail
                go_round
                case rel => exact ⟨k + 1, c, by omega, by omega, by go_num, rfl, Lib.hid (by rw [HS.out]; rfl)⟩
                case measure => simp [intOf]; omega
              · have G1 := Lib.hid (get_none b1 w6 HTb.out.1.mp HTb.out.1.ws e1)
                have G2 := Lib.hid (get_some b2 w6 HTb.out.2.2.1.mp HTb.out.2.2.1.ws e2)
                rw [e1, e2, show difO none (some (.int .i64 n2)) = true from rfl] at hs
                have HS := Lib.hid hs
                clear hs e1 e2 HTb HRU HC
                go_wp2_with fail
                refine G1.out.mono ?_
                rintro e w7 ⟨rfl, rfl⟩
                go_wp2_with fail
                refine G2.out.mono ?_
                rintro e w7 ⟨rfl, rfl⟩
                go_wp2_with fail
                go_round
                case rel => exact ⟨k + 1, c + 1, by omega, by omega, by go_num, by go_num, Lib.hid (by rw [HS.out]; rfl)⟩
                case measure => simp [intOf]; omega
              · have G1 := Lib.hid (get_some b1 w6 HTb.out.1.mp HTb.out.1.ws e1)
                have G2 := Lib.hid (get_none b2 w6 HTb.out.2.2.1.mp HTb.out.2.2.1.ws e2)
                rw [e1, e2, show difO (some (.int .i64 n1)) none = true from rfl] at hs
                have HS := Lib.hid hs
                clear hs e1 e2 HTb HRU HC
                go_wp2_with fail
                refine G1.out.mono ?_
                rintro e w7 ⟨rfl, rfl⟩
                go_wp2_with fail
                refine G2.out.mono ?_
                rintro e w7 ⟨rfl, rfl⟩
                go_wp2_with fail
                go_round
                case rel => exact ⟨k + 1, c + 1, by omega, by omega, by go_num, by go_num, Lib.hid (by rw [HS.out]; rfl)⟩
                case measure => simp [intOf]; omega
              · have G1 := Lib.hid (get_some b1 w6 HTb.out.1.mp HTb.out.1.ws e1)
                have G2 := Lib.hid (get_some b2 w6 HTb.out.2.2.1.mp HTb.out.2.2.1.ws e2)
                rw [e1, e2, show difO (some (.int .i64 n1)) (some (.int .i64 n2)) = (n1 != n2) from rfl] at hs
                by_cases hnn : n1 = n2
                · subst hnn
                  rw [show (n1 != n1) = false by simp] at hs
                  have HS := Lib.hid hs
                  clear hs e1 e2 HTb HRU HC
                  go_wp2_with fail
                  refine G1.out.mono ?_
                  rintro e w7 ⟨rfl, rfl⟩
                  go_wp2_with fail
                  refine G2.out.mono ?_
                  rintro e w7 ⟨rfl, rfl⟩
                  go_wp2_with fail
                  go_round
                  case rel => exact ⟨k + 1, c, by omega, by omega, by go_num, rfl, Lib.hid (by rw [HS.out]; rfl)⟩
                  case measure => simp [intOf]; omega
                · have hne : (n1 != n2) = true := by simp [hnn]
                  have hne2 : (n1 == n2) = false := by simp [hnn]
                  rw [hne] at hs
                  have HS := Lib.hid hs
                  clear hs e1 e2 HTb HRU HC hnn
                  go_wp2_with fail
                  refine G1.out.mono ?_
                  rintro e w7 ⟨rfl, rfl⟩
                  go_wp2_with fail
                  refine G2.out.mono ?_
                  rintro e w7 ⟨rfl, rfl⟩
                  go_wp2_with fail
                  go_round
                  case rel => exact ⟨k + 1, c + 1, by omega, by omega, by go_num, by go_num, Lib.hid (by rw [HS.out]; rfl)⟩
                  case measure => simp [intOf]; omega
            · obtain rfl : k = U.length := by omega
              have g3 : ¬ (U.length : Int) < (U.length : Int) := by omega
              have hc := HC.out
              unfold cnt at hc
              rw [List.take_length] at hc
              have hmem : ∀ z, z ∈ U ↔ z ∈ la ∨ z ∈ lb := fun z => by rw [HUU.out, uniqF_has, List.mem_append]
              have hRis : RisU U := by rw [HUU.out]; exact uniqF_ris _
              have ma : ∀ z, (∃ p ∈ prs ta, p.1 = z) ↔ ∃ x ∈ la, z = str x := by rw [HTb.out.2.1]; exact (numT_keys la).2
              have mb : ∀ z, (∃ p ∈ prs tb, p.1 = z) ↔ ∃ x ∈ lb, z = str x := by rw [HTb.out.2.2.2]; exact (numT_keys lb).2
              have L1 := Lib.hid (show (chgLSI ta tb).length = c by rw [chgSI_len HTb.out.1.ws HTb.out.2.2.1.ws HTb.out.1.rs HTb.out.2.2.1.rs ma mb hRis hmem]; exact hc.symm)
              have L2 := Lib.hid (show (chgLSI tb ta).length = c by
                rw [chgSI_len HTb.out.2.2.1.ws HTb.out.1.ws HTb.out.2.2.1.rs HTb.out.1.rs mb ma hRis (fun z => (hmem z).trans or_comm), hc]
                congr 1
                funext x
                exact difO_comm _ _)
              clear hc hmem hRis ma mb HC HUU HRU hck
              go_wp2_with fail
              refine (d21first_any _).mono ?_
              rintro e w8 ⟨rfl, hb8⟩
              have H8 := Lib.hid (H6.out.trans (hb8.mono H6.out.size))
              have HT8 := Lib.hid (And.intro (HTb.out.1.below hb8) (HTb.out.2.2.1.below hb8))
              have K1 := Lib.hid (by
                have := countSI_any (.pointer (some ⟨b1, 0, none⟩)) (.pointer (some ⟨b2, 0, none⟩)) ta tb w8 (.inl ⟨b1, rfl, HT8.out.1.mp⟩) (.inl ⟨b2, rfl, HT8.out.2.mp⟩) HT8.out.1.ws HT8.out.2.ws (by have := HT8.out.1.len; omega) (by have := HT8.out.2.len; omega)
                rw [L1.out] at this
                exact this)
              clear hb8 HTb H6
              go_wp2_with fail
              refine K1.out.mono ?_
              rintro e w9 ⟨rfl, hb9⟩
              have H9 := Lib.hid (H8.out.trans (hb9.mono H8.out.size))
              have HT9 := Lib.hid (And.intro (HT8.out.1.below hb9) (HT8.out.2.below hb9))
              have K2 := Lib.hid (by
                have := countSI_any (.pointer (some ⟨b2, 0, none⟩)) (.pointer (some ⟨b1, 0, none⟩)) tb ta w9 (.inl ⟨b2, rfl, HT9.out.2.mp⟩) (.inl ⟨b1, rfl, HT9.out.1.mp⟩) HT9.out.2.ws HT9.out.1.ws (by have := HT9.out.2.len; omega) (by have := HT9.out.1.len; omega)
                rw [L2.out] at this
                exact this)
              clear hb9 HT8 H8 K1
              go_wp2_with fail
              refine K2.out.mono ?_
              rintro e wA ⟨rfl, hbA⟩
              go_wp2_with fail
              go_ret
              have HX := H9.out.trans (hbA.mono H9.out.size)
              exact ⟨rfl, HW.out.trans (HX.mono HW.out.size)⟩
end Go.Proofs.Yteibiaplmmdppaa
