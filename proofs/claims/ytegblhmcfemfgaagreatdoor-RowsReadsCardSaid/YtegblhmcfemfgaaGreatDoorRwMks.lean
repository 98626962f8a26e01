import Derived.Test.YtegblhmcfemfgaaGreatDoorRwMkP
import Derived.Test.YtegblhmcfemfgaaGreatDoorRwGets
namespace Go.Proofs.YtegblhmcfemfgaaGreatDoor
open Go.RowKit
def memD (v : JV) (nm : List UInt8) : JV := match getJ v nm with
 | some x => x
 | none => .mk 0 0 [] [] []
theorem get_all (v : JV) (nm : List UInt8) (hsz : szV v ≤ 1000000000) (F : Nat → Prop) (w : World) (cs : List Value) (h : RdJ w F v cs) :
 Calls Tryz.prog 40 #[.agg cs.toArray, str nm] w fun e w' => ∃ cs' ok, e = .returned (.tuple #[.agg cs'.toArray, .bool ok]) ∧ RdJ w' (fun i => w.heap.size ≤ i) (memD v nm) cs' ∧ Below w.heap.size w w' := by
 refine (get_any v nm hsz F w cs h).mono ?_
 intro e w' hg
 unfold memD
 cases hj : getJ v nm with
 | none =>
  rw [hj] at hg
  obtain ⟨rfl, hb⟩ := hg
  exact ⟨[.int .i64 0, .int .i64 0, str [], .slice none 0 0, .slice none 0 0], _, rfl, plainJ _ _ 0 0 [], hb⟩
 | some x =>
  rw [hj] at hg
  obtain ⟨cs', rfl, h1, h2⟩ := hg
  exact ⟨cs', _, rfl, h1, h2⟩
theorem memD_len (v : JV) (nm : List UInt8) (h : szV v ≤ 1000000000) : (memD v nm).l.length ≤ 1000000000 := by
 unfold memD
 cases hj : getJ v nm with
 | none => simp [JV.l]
 | some x =>
  have h1 := getJ_sz hj
  have h2 := szV_mk x
  have h3 := szL_len x.l
  dsimp only
  omega
def mk2 (v : JV) : MarkT := match v.l with
 | [a, b] => (a.n, b.n)
 | _ => (0, 0)
def twoB (l : List JV) : Bool := l.all (fun v => v.l.length == 2)
theorem twoB_succ {l : List JV} {k : Nat} (h : k < l.length) (h1 : twoB (l.take k) = true) (h2 : l[k].l.length = 2) : twoB (l.take (k + 1)) = true := by
 unfold twoB at h1 ⊢
 rw [List.take_succ_eq_append_getElem h, List.all_append, h1]
 simp [h2]
theorem twoB_no {l : List JV} {k : Nat} (h : k < l.length) (h2 : l[k].l.length ≠ 2) : twoB l = false := by
 unfold twoB
 rw [List.all_eq_false]
 exact ⟨l[k], List.getElem_mem h, by simpa using h2⟩
theorem mk2_of {v : JV} (h : v.l.length = 2) : ∃ a b, v.l = [a, b] ∧ mk2 v = (a.n, b.n) := by
 unfold mk2
 match v.l, h with
 | [a, b], _ => exact ⟨a, b, rfl, rfl⟩
def mksOk (s : List UInt8) : Bool := twoB (memD (valOf s) marksN).l && okR (putMksR ((memD (valOf s) marksN).l.map mk2)) s
def mksOf (s : List UInt8) : List MarkT := (memD (valOf s) marksN).l.map mk2
def GmI (w Wb W : World) (l : List JV) (v : Value) (k : Nat) : Prop := Below w.heap.size w Wb ∧ Below Wb.heap.size Wb W ∧ W.ownsRow Wb.heap.size 67 2 v k (((l.take k).map mk2).map cellsM).flatten ∧ twoB (l.take k) = true
set_option maxRecDepth 100000 in
set_option maxHeartbeats 8000000 in
theorem getMks_any (s : List UInt8) (w : World) (hl : s.length ≤ 1000000) (ht : TabJ w.heap.size w) :
 Calls Tryz.prog 16 #[str s] w fun e w' => ∃ u, e = .returned (.tuple #[u, .bool (mksOk s)]) ∧ RdMk w' u (if mksOk s = true then mksOf s else []) ∧ Below w.heap.size w w' := by
 have CP := Lib.hid (rparse_any s w hl)
 have hsz := valOf_sz s
 unfold mksOk mksOf
 obtain ⟨V, hV⟩ : ∃ V, V = valOf s := ⟨_, rfl⟩
 rw [← hV] at CP hsz
 rw [← hV]
 have HSZ := Lib.hid hsz
 have hlen := memD_len V marksN hsz
 obtain ⟨X, hX⟩ : ∃ X, X = memD V marksN := ⟨_, rfl⟩
 rw [← hX] at hlen
 rw [← hX]
 have HX := Lib.hid hX
 obtain ⟨OK, hOK⟩ : ∃ OK, OK = (twoB X.l && okR (putMksR (X.l.map mk2)) s) := ⟨_, rfl⟩
 obtain ⟨LL, hLL⟩ : ∃ LL, LL = (if OK = true then X.l.map mk2 else []) := ⟨_, rfl⟩
 rw [← hOK, ← hLL]
 have HOK := Lib.hid (And.intro hOK hLL)
 have HT := Lib.hid ht
 obtain ⟨i0, hi, hz0, hz1, hz2⟩ := info_parts infoMk
 clear hV hX hl ht hsz hOK hLL
 go_enter Tryz.func16, Tryz.ntmps16
 go_wp2_with fail
 refine CP.out.mono ?_
 rintro e w2 ⟨cs, rfl, hv, hb2⟩
 have CG := get_all V [109, 97, 114, 107, 115] HSZ.out _ w2 cs hv
 have e9 : memD V [109, 97, 114, 107, 115] = X := HX.out.symm
 rw [e9] at CG
 obtain ⟨a1, n1, c1, a2, n2, c2, rfl, _, _⟩ := hv.open
 have CG := Lib.hid CG
 have HB2 := Lib.hid hb2
 clear hb2 hv CP e9
 go_wp2_with fail
 refine CG.out.mono ?_
 rintro e w3 ⟨cs3, ok3, rfl, hv3, hb3⟩
 obtain ⟨al, ll, cl, am, lm, cm, rfl, ⟨rl, hrl, hll, rfl⟩, _⟩ := hv3.open
 obtain ⟨W4, hW4⟩ : ∃ W4, W4 = w3.alloc (.cells #[.int .i64 X.kind, .int .i64 X.n, str X.s, .slice al X.l.length cl, .slice am lm cm] 72) := ⟨_, rfl⟩
 have hb4 : Below w3.heap.size w3 W4 := by rw [hW4]; exact below_alloc _ _
 have hbx : W4.heap[w3.heap.size]? = some (.cells #[.int .i64 X.kind, .int .i64 X.n, str X.s, .slice al X.l.length cl, .slice am lm cm] 72 (0, 0)) := by rw [hW4]; exact heap_alloc_new _ _
 have p3 := box_cell hbx 3
 have H4 : Hid (Below w.heap.size w W4) := Lib.hid (HB2.out.trans ((hb3.trans (hb4.mono hb3.size)).mono HB2.out.size))
 have HL := Lib.hid (And.intro (hrl.frm (Frm.of_below (F := fun _ => False) hb4) (fun _ _ e => e)) (hll.up hb4))
 clear hb3 hv3 CG hrl hll hb4 hbx
 go_upto_region 2 with fail
 rw [← hW4]
 clear hW4
 go_wp2_with fail
 clear p3
 go_loopw [6, 18] (fun v6 v18 wr => ∃ k : Nat, k ≤ X.l.length ∧ v18 = .int .i64 (k : Int) ∧ Hid (GmI w W4 wr X.l v6 k)) (fun _ v18 _ => X.l.length - (intOf v18).toNat)
 case atStart => exact ⟨0, Nat.zero_le _, rfl, Lib.hid ⟨H4.out, Below.refl _ _, World.ownsRow_nil _ _ _ 2, rfl⟩⟩
 case round =>
  obtain ⟨v6, hv6⟩ : ∃ v, v = u6 := ⟨_, rfl⟩
  subst hv6
  obtain ⟨k, hk, rfl, HI⟩ := hrel
  by_cases hlt : k < X.l.length
  · have n1 : (k : Int) < (X.l.length : Int) := by omega
    have n3 : (0 : Int) ≤ (k : Int) := by omega
    obtain ⟨b, off, a, n, c, a', n', c', rfl, _, hbw, hx, c0, c1, c2, c3, c4⟩ := RdJ.part HL.out.1 HL.out.2 hlt
    obtain ⟨x, hxx⟩ : ∃ x, x = X.l[k] := ⟨_, rfl⟩
    rw [← hxx] at hx c0 c1 c2
    have HXX := Lib.hid hxx
    clear hxx
    obtain ⟨al2, ll2, cl2, am2, lm2, cm2, he, ⟨rl2, hrl2, hll2, hn2⟩, _⟩ := hx.open
    simp only [List.cons.injEq, Value.slice.injEq, true_and, and_true] at he
    obtain ⟨⟨rfl, rfl, rfl⟩, rfl, rfl, rfl⟩ := he
    subst hn2
    have hB0 : Below W4.heap.size W4 wr := HI.out.2.1
    have e0 : wr.cell? ⟨b, off + k * 5, none⟩ = some (.int .i64 x.kind) := (hB0.cell (p := ⟨b, off + k * 5, none⟩) hbw).trans c0
    have e1 : wr.cell? ⟨b, off + k * 5 + 1, none⟩ = some (.int .i64 x.n) := (hB0.cell (p := ⟨b, off + k * 5 + 1, none⟩) hbw).trans c1
    have e2 : wr.cell? ⟨b, off + k * 5 + 2, none⟩ = some (str x.s) := (hB0.cell (p := ⟨b, off + k * 5 + 2, none⟩) hbw).trans c2
    have e3 : wr.cell? ⟨b, off + k * 5 + 3, none⟩ = some (.slice a x.l.length c) := (hB0.cell (p := ⟨b, off + k * 5 + 3, none⟩) hbw).trans c3
    have e4 : wr.cell? ⟨b, off + k * 5 + 4, none⟩ = some (.slice a' n' c') := (hB0.cell (p := ⟨b, off + k * 5 + 4, none⟩) hbw).trans c4
    obtain ⟨W1, hW1⟩ : ∃ W1, W1 = wr.alloc (.cells #[.int .i64 x.kind, .int .i64 x.n, str x.s, .slice a x.l.length c, .slice a' n' c'] 72) := ⟨_, rfl⟩
    have hb1 : Below wr.heap.size wr W1 := by rw [hW1]; exact below_alloc _ _
    have hbx : W1.heap[wr.heap.size]? = some (.cells #[.int .i64 x.kind, .int .i64 x.n, str x.s, .slice a x.l.length c, .slice a' n' c'] 72 (0, 0)) := by rw [hW1]; exact heap_alloc_new wr _
    have HI1 : Hid (GmI w W4 W1 X.l v6 k) := Lib.hid ⟨HI.out.1, HI.out.2.1.trans (hb1.mono HI.out.2.1.size), owns_below HI.out.2.2.1 hb1 (Nat.le_refl _), HI.out.2.2.2⟩
    have HQ : Hid (∀ j, v6.ownBlock = some j → W4.heap.size ≤ j ∧ j < wr.heap.size) := Lib.hid (fun j hj => HI.out.2.2.1.lt j hj)
    have p3 := box_cell hbx 3
    have HF : Hid (W4.heap.size ≤ wr.heap.size ∧ W1.heap.size = wr.heap.size + 1) := Lib.hid ⟨HI.out.2.1.size, by rw [hW1]; simp⟩
    clear c0 c1 c2 c3 c4 hx HI hB0
    go_upto_region 6 with fail
    rw [← hW1]
    clear hW1 e0 e1 e2 e3 e4
    by_cases h2 : x.l.length = 2
    · obtain ⟨A, B, hAB, hmk⟩ := mk2_of h2
      rw [hAB] at hll2
      rw [h2] at hrl2 p3
      obtain ⟨b2, off2, y1, y2, y3, y4, y5, y6, rfl, _, hbw2, _, _, f1, _⟩ := RdJ.part hrl2 hll2 (k := 0) (by simp)
      obtain ⟨b3, off3, z1, z2, z3, z4, z5, z6, he3, _, hbw3, _, _, g1, _⟩ := RdJ.part hrl2 hll2 (k := 1) (by simp)
      simp only [Option.some.injEq, Addr.mk.injEq, and_true] at he3
      obtain ⟨rfl, rfl⟩ := he3
      have f1 : W4.cell? ⟨b2, off2 + 1, none⟩ = some (.int .i64 A.n) := by simpa using f1
      have g1 : W4.cell? ⟨b2, off2 + 5 + 1, none⟩ = some (.int .i64 B.n) := by simpa using g1
      have HTW : Hid (twoB (X.l.take (k + 1)) = true) := Lib.hid (twoB_succ hlt HI1.out.2.2.2 (by rw [← HXX.out]; exact h2))
      have HTK : Hid ((((X.l.take (k + 1)).map mk2).map cellsM).flatten = (((X.l.take k).map mk2).map cellsM).flatten ++ [.int .i64 A.n, .int .i64 B.n]) := Lib.hid (by
       rw [List.take_succ_eq_append_getElem hlt, ← HXX.out]; simp [hmk, cellsM])
      have hW0 : Below W4.heap.size W4 W1.drew := Below.drewsN HI1.out.2.1 1
      have d3 : W1.drew.cell? ⟨wr.heap.size, 3, none⟩ = some (.slice (some ⟨b2, off2, none⟩) 2 c) := p3
      have d1 : W1.drew.cell? ⟨b2, off2 + 1, none⟩ = some (.int .i64 A.n) := (hW0.cell (p := ⟨b2, off2 + 1, none⟩) hbw2).trans f1
      have d2 : W1.drew.cell? ⟨b2, off2 + 5 + 1, none⟩ = some (.int .i64 B.n) := (hW0.cell (p := ⟨b2, off2 + 5 + 1, none⟩) hbw2).trans g1
      have HKS : Hid (∀ (G : Nat → Prop) W', Frm G W1.drew W' → (∀ i, G i → v6.ownBlock = some i) → W'.cell? ⟨wr.heap.size, 3, none⟩ = some (.slice (some ⟨b2, off2, none⟩) 2 c) ∧ W'.cell? ⟨b2, off2 + 1, none⟩ = some (.int .i64 A.n) ∧ W'.cell? ⟨b2, off2 + 5 + 1, none⟩ = some (.int .i64 B.n)) := Lib.hid (fun G W' hf hG => by
       have q : ∀ j, v6.ownBlock = some j → W4.heap.size ≤ j ∧ j < wr.heap.size := HQ.out
       exact ⟨cell_frm hf (fun e => by have := q _ (hG _ e); omega) d3, cell_frm hf (fun e => by have := q _ (hG _ e); omega) d1, cell_frm hf (fun e => by have := q _ (hG _ e); omega) d2⟩)
      have HD := Lib.hid (And.intro d3 (And.intro d1 d2))
      have HO : Hid (W1.drew.ownsRow W4.heap.size 67 2 v6 k (((X.l.take k).map mk2).map cellsM).flatten ∧ Below W4.heap.size W4 W1.drew) := Lib.hid ⟨HI1.out.2.2.1, hW0⟩
      have hk9 : k ≤ 1000000000 := by omega
      have HSZ4 : Hid (W4.heap.size ≤ W1.drew.heap.size) := Lib.hid hW0.size
      clear hbx hb1 f1 g1 hW0 hrl2 hll2 hAB h2
      go_wp2_with fail
      go_region_held3 (fun W' => W'.cell? ⟨wr.heap.size, 3, none⟩ = some (.slice (some ⟨b2, off2, none⟩) 2 c) ∧ W'.cell? ⟨b2, off2 + 1, none⟩ = some (.int .i64 A.n) ∧ W'.cell? ⟨b2, off2 + 5 + 1, none⟩ = some (.int .i64 B.n))
       (first
         | (exact HS7.out)
         | (exact HKS.out (fun _ => False) _ (Frm.of_below (below_alloc _ _)) (fun _ h => h.elim))
         | (exact HD.out)
         | go_keep)
       ((first
         | (refine step_appendN (by rfl) _ _ 28 (by rfl) (size := 2) (bytes := 16) Tryz.underlying28 hi hz0 hz1 hz2 rfl (by decide) (by rfl) (World.ownsRow.alloc HO.out.1 _) [.int .i64 A.n, .int .i64 B.n] (by rfl) (heap_alloc_new _ _) rfl ?_ ?_ ?_ ?_ ?_
            · intro u hu
              simp only [List.mem_cons, List.not_mem_nil, or_false] at hu
              rcases hu with rfl | rfl <;> rfl
            · unfold maxLen; omega
            · omega
            · have := HSZ4.out; simp at this ⊢; omega
            intro v7 w7 ho7 hg7
            have HS7 := Lib.hid (HKS.out (fun i => v6.ownBlock = some i) w7 ((Frm.of_below (below_alloc _ _)).trans (Frm.of_grown hg7 (fun k hk => hk)) (fun _ _ h => h)) (fun _ h => h))
            have HN : Hid (GmI w W4 w7 X.l v7 (k + 1)) := Lib.hid ⟨HI1.out.1, (HO.out.2.trans ((below_alloc W1.drew _).mono HSZ4.out)).grown hg7 (Nat.le_trans HSZ4.out (below_alloc W1.drew _).size) (fun j ej => (World.ownsRow.lt HO.out.1 j ej).1), by rw [HTK.out]; exact ho7, HTW.out⟩
            clear ho7 hg7)
         | fail))
      all_goals
       clear HKS HD HS7
       go_wp2_with fail
       go_roundw
       case rel => exact ⟨k + 1, by omega, by go_num, HN⟩
       case measure => simp [intOf]; omega
    have HOF : Hid (OK = false ∧ LL = []) := Lib.hid (by
     have h0 : OK = false := by rw [HOK.out.1, twoB_no hlt (by rw [← HXX.out]; exact h2), Bool.false_and]
     exact ⟨h0, by rw [HOK.out.2, h0]; rfl⟩)
    have t2 : ((x.l.length : Int) != 2) = true := by rw [bne_iff_ne]; omega
    have HX2 : Hid (Below w.heap.size w W1) := Lib.hid (HI1.out.1.trans (HI1.out.2.1.mono HI1.out.1.size))
    clear h2 hbx hb1
    go_wp2_with fail
    go_ret2
    rw [HOF.out.1, HOF.out.2]
    exact ⟨_, rfl, RdMk.nil _, HX2.out⟩
  obtain rfl : k = X.l.length := by omega
  have n2 : ¬ (X.l.length : Int) < (X.l.length : Int) := by omega
  obtain ⟨M, hM⟩ : ∃ M, M = X.l.map mk2 := ⟨_, rfl⟩
  have HR : Hid (RdMk wr v6 M ∧ twoB X.l = true) := Lib.hid (by
   have h := HI.out.2.2
   rw [List.take_length] at h
   rw [hM]
   exact ⟨RdMk.of_row (by simpa using h.1), h.2⟩)
  have HWB : Hid (Below w.heap.size w wr) := Lib.hid (HI.out.1.trans (HI.out.2.1.mono HI.out.1.size))
  have CI := ifMks_any s v6 M wr HR.out.1 (fun w' h' => HT.out w' (HWB.out.trans (h'.mono HWB.out.size)))
  have h0 := HOK.out.1
  rw [HR.out.2, Bool.true_and, ← hM] at h0
  have h5 := HOK.out.2
  rw [← hM] at h5
  rw [← h0, ← h5] at CI
  have CI := Lib.hid CI
  clear h0 h5 hM
  obtain ⟨a6, c6, rfl, _⟩ := HR.out.1.form
  clear HI
  go_wp2_with fail
  refine CI.out.mono ?_
  rintro e w5 ⟨u, rfl, hu, hb5⟩
  obtain ⟨a7, c7, hu7, _⟩ := hu.form
  have HU := Lib.hid (And.intro hu (HWB.out.trans (hb5.mono HWB.out.size)))
  subst hu7
  clear hb5 hu CI
  go_wp2_with fail
  go_ret2
  exact ⟨_, rfl, HU.out.1, HU.out.2⟩
end Go.Proofs.YtegblhmcfemfgaaGreatDoor
