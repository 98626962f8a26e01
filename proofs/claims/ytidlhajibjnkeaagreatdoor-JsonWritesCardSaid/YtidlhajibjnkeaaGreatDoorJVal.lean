/- JSON: what value tells; list. -/
import Derived.Test.YtidlhajibjnkeaaGreatDoorJNumb
import Derived.Test.YtidlhajibjnkeaaGreatDoorBx
import Derived.Deep.CutRange
import Derived.Deep.CutBlock
namespace Go.Proofs.YtidlhajibjnkeaaGreatDoor
open Go.RowKit

theorem infoJ : (Tryz.prog.info? 28).map (fun i => (i.zero, i.size, i.bytes)) = some (some (.agg #[.int .i64 0, .int .i64 0, str [], .slice none 0 0, .slice none 0 0]), 5, 80) := by kernel_rfl
/-- What value tells. -/
def ValJ (t : List UInt8) (w : World) (b o : Nat) (r : JR JV) (e : Ending) (w' : World) : Prop :=
  match r with
  | .err c => ∃ v cs, e = .returned (.tuple #[.agg cs.toArray, .int .i64 (c : Int)]) ∧ c ≠ 0 ∧ RdJ w' (fun i => w.heap.size ≤ i) v cs ∧ ∃ q o', JSt w b t q o' w'
  | .ok v q => ∃ cs, e = .returned (.tuple #[.agg cs.toArray, .int .i64 0]) ∧ RdJ w' (fun i => w.heap.size ≤ i) v cs ∧ JSt w b t q o w' ∧ q ≤ t.length
theorem JSt.grow {w W W' : World} {b p o : Nat} {t : List UInt8} {G : Nat → Prop} (h : JSt w b t p o W) (hf : Frm G W W') (hG : ∀ i, G i → i ≠ b ∧ w.heap.size ≤ i) : JSt w b t p o W' :=
  ⟨h.1.frm hf (fun g => (hG b g).1 rfl), h.2.trans hf (fun i hi g => by have := (hG i g).2; omega)⟩
/-- The list under way: its box, the result's box, its parts. -/
def LstP (s : Nat) (acc : List JV) (vl : Value) (rows : List (List Value)) (W : World) : Prop :=
  W.heap[s]? = some (.cells #[.int .i64 0, .int .i64 0, str [], .slice none 0 0, .slice none 0 0] 28 (0, 0)) ∧
  W.heap[s + 1]? = some (.cells #[.int .i64 6, .int .i64 0, str [], vl, .slice none 0 0] 28 (0, 0)) ∧ W.ownsRow (s + 2) 28 5 vl acc.length rows.flatten ∧ RdL W (fun i => s + 1 < i ∧ i < W.heap.size ∧ vl.ownBlock ≠ some i) acc rows
def LstS (s : Nat) (acc : List JV) (W : World) : Prop := ∃ vl rows, LstP s acc vl rows W
theorem LstP.frm {s : Nat} {acc : List JV} {vl : Value} {rows : List (List Value)} {W W' : World} {G : Nat → Prop} (h : LstP s acc vl rows W) (hf : Frm G W W') (hG : ∀ i, s ≤ i → i < W.heap.size → ¬ G i) : LstP s acc vl rows W' := by
  obtain ⟨h1, h2, h3, h4⟩ := h
  have l1 := (Array.getElem?_eq_some_iff.1 h1).1
  have l2 := (Array.getElem?_eq_some_iff.1 h2).1
  refine ⟨box_frm h1 hf (hG _ (Nat.le_refl _) l1), box_frm h2 hf (hG _ (by omega) l2), owns_frm h3 hf (fun k hk => by have := h3.lt k hk; exact hG k (by omega) this.2), ?_⟩
  have := h4.frm hf (fun i hi => hG i (by omega) hi.2.1)
  exact this.mono (fun i hi hF => ⟨hF.1, hi, hF.2.2⟩)
theorem LstS.frm {s : Nat} {acc : List JV} {W W' : World} {G : Nat → Prop} (h : LstS s acc W) (hf : Frm G W W') (hG : ∀ i, s ≤ i → i < W.heap.size → ¬ G i) : LstS s acc W' := by
  obtain ⟨vl, rows, h⟩ := h
  exact ⟨vl, rows, h.frm hf hG⟩
theorem LstP.sz {s : Nat} {acc : List JV} {vl : Value} {rows : List (List Value)} {W : World} (h : LstP s acc vl rows W) : s + 2 ≤ W.heap.size ∧ ∀ k, vl.ownBlock = some k → k < W.heap.size :=
  ⟨(Array.getElem?_eq_some_iff.1 h.2.1).1, fun k hk => (h.2.2.1.lt k hk).2⟩
/-- A part more. -/
theorem LstP.add {s : Nat} {acc : List JV} {vl : Value} {rows : List (List Value)} {W w4 : World} {g cap B0 : Nat} {v : JV} {cs : List Value} {ob : Obj} (h : LstP s acc vl rows W) (hB : s + 2 ≤ B0) (hvb : ∀ k, vl.ownBlock = some k → k < B0) (hv : RdJ W (fun i => B0 ≤ i) v cs)
    (ho : w4.ownsRow (s + 2) 28 5 (.slice (some ⟨g, 0, none⟩) (acc.length + 1) cap) (acc.length + 1) (rows.flatten ++ cs)) (hg : (W.alloc ob).grownBy w4 vl.ownBlock) (hl : vl.ownBlock = some g ∨ g = W.heap.size + 1) :
    LstP s (acc ++ [v]) (.slice (some ⟨g, 0, none⟩) (acc.length + 1) cap) (rows ++ [cs]) (w4.setCell ⟨s + 1, 3, none⟩ (.slice (some ⟨g, 0, none⟩) (acc.length + 1) cap)) ∧ Frm (fun i => s ≤ i) W (w4.setCell ⟨s + 1, 3, none⟩ (.slice (some ⟨g, 0, none⟩) (acc.length + 1) cap)) := by
  have hsz := h.sz
  obtain ⟨h1, h2, h3, h4⟩ := h
  have hgb : ∀ k, vl.ownBlock = some k → s + 2 ≤ k := fun k hk => (h3.lt k hk).1
  have f1 : Frm (fun i => vl.ownBlock = some i) W w4 := (Frm.of_below (below_alloc W ob)).trans (Frm.of_grown hg (fun k hk => hk)) (fun _ _ h => h)
  have f2 : Frm (fun i => i = s + 1 ∨ vl.ownBlock = some i) W (w4.setCell ⟨s + 1, 3, none⟩ (.slice (some ⟨g, 0, none⟩) (acc.length + 1) cap)) :=
    (f1.mono (fun _ _ h => .inr h)).trans (Frm.set (F := fun i => i = s + 1) _ rfl) (fun _ _ h => .inl h)
  have hgs : s + 2 ≤ g := by
    rcases hl with h | h
    · exact hgb g h
    · omega
  have hbx : w4.heap[s + 1]? = some (.cells #[.int .i64 6, .int .i64 0, str [], vl, .slice none 0 0] 28 (0, 0)) := box_frm h2 f1 (fun e => by have := hgb _ e; omega)
  have g1 : ∀ i, (i = s + 1 ∨ vl.ownBlock = some i) → s + 1 ≤ i := fun i h => by
    rcases h with h | h
    · omega
    · have := hgb _ h; omega
  refine ⟨⟨box_frm h1 f2 (fun e => by have := g1 _ e; omega), box_set hbx 3 _, ?_, RdL.snoc ?_ ?_⟩, f2.mono (fun i _ hi => by have := g1 _ hi; omega)⟩
  · rw [List.flatten_append, List.length_append]
    simp only [List.flatten_cons, List.flatten_nil, List.append_nil, List.length_singleton]
    exact owns_frm (F := fun i => i = s + 1) ho (Frm.set _ rfl) (fun k hk e => by simp [Value.ownBlock] at hk; omega)
  · refine RdJ.mono (F := fun i => B0 ≤ i ∧ i < W.heap.size) ?_ (fun i hi hF => ⟨by omega, hi, fun e => ?_⟩)
    · exact (hv.mono (G := fun i => B0 ≤ i ∧ i < W.heap.size) (fun i hi hF => ⟨hF, hi⟩)).frm f2 (fun i hi e => by
        rcases e with e | e
        · omega
        · have := hvb i e; omega)
    · simp only [Value.ownBlock, Option.some.injEq] at e
      subst e
      rcases hl with h | h
      · have := hvb _ h; omega
      · omega
  · have := h4.frm f2 (fun i hi e => by
      rcases e with e | e
      · omega
      · exact hi.2.2 e)
    refine this.mono (fun i hi hF => ⟨hF.1, hi, fun e => ?_⟩)
    simp only [Value.ownBlock, Option.some.injEq] at e
    subst e
    rcases hl with h | h
    · exact hF.2.2 h
    · omega
theorem own_slice {w : World} {base size n : Nat} {e : TypeId} {v : Value} {xs : List Value} (h : w.ownsRow base e size v n xs) : ∃ a c, v = .slice a n c := by
  rcases h.2 with ⟨rfl, rfl⟩ | ⟨g, cap, _, rfl, _⟩
  · exact ⟨none, 0, rfl⟩
  · exact ⟨_, cap, rfl⟩
theorem behP_lt {t : List UInt8} {d : UInt8} {p : Nat} {z : Bool} {r : Nat} (h : behP t d p = .ok z r) : p < r := by
  unfold behP at h
  have := skp_ge t p
  split at h
  · cases h
  · split at h
    · cases h; omega
    · split at h
      · cases h; omega
      · cases h
theorem frm3 {wr W1 w2 w3 : World} {b : Nat} (h1 : Below wr.heap.size wr W1) (h2 : Frm (fun i => i = b) W1 w2) (h3 : Frm (fun i => i = wr.heap.size) w2 w3) : Frm (fun i => i = b ∨ i = wr.heap.size) wr w3 :=
  ((Frm.of_below (F := fun i => i = b ∨ i = wr.heap.size) h1).trans h2 (fun _ _ h => .inl h)).trans h3 (fun _ _ h => .inr h)
/-- A list's box is a value. -/
theorem lstJ {s : Nat} {acc : List JV} {va : Option Addr} {vc : Nat} {rows : List (List Value)} {W W' : World} (h3 : W.ownsRow (s + 2) 28 5 (.slice va acc.length vc) acc.length rows.flatten) (h4 : RdL W (fun i => s + 1 < i ∧ i < W.heap.size ∧ (Value.slice va acc.length vc).ownBlock ≠ some i) acc rows) (hf : Frm (fun i => i = s) W W') :
    RdJ W' (fun i => s ≤ i) (.mk 6 0 [] acc []) [.int .i64 6, .int .i64 0, str [], .slice va acc.length vc, .slice none 0 0] := by
  obtain ⟨r1, r2⟩ := RdL.rows h4
  unfold RdJ
  refine ⟨_, _, rfl, ⟨rows, ?_, ?_⟩, [], RdFB.nil _ _ _, by unfold RdM; trivial⟩
  · have h3' := owns_frm h3 hf (fun k hk e => by have := h3.lt k hk; omega)
    rw [← r1] at h3' ⊢
    exact RdFB.of_row r2 h3' (fun k hk => by have := h3.lt k (by rw [← r1]; exact hk); omega)
  · exact (h4.frm hf (fun i hi e => by omega)).mono (fun i _ hi => by omega)
/-- What the loop of list keeps. -/
def LRel (t : List UInt8) (w : World) (b o : Nat) (f : Nat → JR JV) (R : JR (List JV)) (n : Nat) (dn : Bool) (c : Nat) (W : World) : Prop :=
  (dn = false ∧ c = 0 ∧ ∃ q acc, q ≤ t.length ∧ t.length - q < n ∧ acc.length + n ≤ t.length + 1 ∧ itsP f t n q acc = R ∧ JSt w b t q (o + 1) W ∧ LstS w.heap.size acc W) ∨
  (dn = true ∧ c = 0 ∧ n = 0 ∧ ∃ q acc, R = .ok acc q ∧ q ≤ t.length ∧ JSt w b t q o W ∧ LstS w.heap.size acc W) ∨
  (c ≠ 0 ∧ n = 0 ∧ R = .err c ∧ ∃ q o' acc, JSt w b t q o' W ∧ LstS w.heap.size acc W)
set_option maxRecDepth 100000 in
set_option maxHeartbeats 4000000 in
theorem list_any (t : List UInt8) (b p o : Nat) (w : World) (f : Nat → JR JV) (CV : ∀ W q, JRb W b t q (o + 1) → q ≤ t.length → Calls Tryz.prog 24 #[.pointer (some ⟨b, 0, none⟩)] W (ValJ t W b (o + 1) (f q)))
    (hf : ∀ q v q1, f q = .ok v q1 → q ≤ q1) (h : JRb w b t p o) (hp : p < t.length) (hl : t.length ≤ 1000000) (ho : o ≤ 1000) :
    Calls Tryz.prog 40 #[.pointer (some ⟨b, 0, none⟩)] w (ValJ t w b o (lstV (lstP f t p))) := by
  have hb := h.lt
  have CV := Lib.hid CV
  obtain ⟨R, hR⟩ : ∃ R, R = lstP f t p := ⟨_, rfl⟩
  rw [← hR]
  obtain ⟨Wa, hWa⟩ : ∃ Wa, Wa = (w.alloc (.cells #[.int .i64 0, .int .i64 0, .string ⟨#[]⟩, .slice none 0 0, .slice none 0 0] 28)).alloc (.cells #[.int .i64 6, .int .i64 0, .string ⟨#[]⟩, .slice none 0 0, .slice none 0 0] 28) := ⟨_, rfl⟩
  have hba : Below w.heap.size w Wa := by rw [hWa]; exact ((Below.refl _ w).alloc (Nat.le_refl _) _).alloc (by simp) _
  have ha : JRb Wa b t p o := h.below hba
  have hLs : LstS w.heap.size [] Wa := by
    refine ⟨.slice none 0 0, [], ?_, ?_, World.ownsRow_nil _ _ _ _, by unfold RdL; trivial⟩
    · rw [hWa]
      exact box_up (heap_alloc_new w _) (below_alloc _ _)
    · rw [hWa]
      have := heap_alloc_new (w.alloc (.cells #[.int .i64 0, .int .i64 0, .string ⟨#[]⟩, .slice none 0 0, .slice none 0 0] 28)) (.cells #[.int .i64 6, .int .i64 0, .string ⟨#[]⟩, .slice none 0 0, .slice none 0 0] 28)
      simpa using this
  have CE : Hid (Calls Tryz.prog 62 #[.pointer (some ⟨b, 0, none⟩), .int .u8 93] Wa fun e w1 => ∃ (dn : Bool) (c n : Nat), e = .returned (.tuple #[.bool dn, .int .i64 (c : Int)]) ∧ Hid (LRel t w b o f R n dn c w1)) := Lib.hid ((enter_any t b p o 93 Wa ha hp (by omega) ho).mono (by
    intro e w1 h1
    have gr : ∀ {q o' : Nat}, JSt Wa b t q o' w1 → JSt w b t q o' w1 ∧ LstS w.heap.size [] w1 := fun {q o'} k => ⟨(JSt.below (JSt.refl h) hba).trans ⟨k.1, k.2⟩ |> fun z => z, hLs.frm k.2 (fun i hi _ e => by omega)⟩
    unfold lstP at hR
    cases hx : entP t 93 p with
    | err c =>
      rw [hx] at h1 hR
      obtain ⟨rfl, hc, q, o', hs⟩ := h1
      obtain ⟨g1, g2⟩ := gr hs
      exact ⟨false, c, 0, rfl, Lib.hid (.inr (.inr ⟨hc, rfl, hR, q, o', [], g1, g2⟩))⟩
    | ok dn q =>
      rw [hx] at h1 hR
      cases dn with
      | true =>
        obtain ⟨rfl, hs, hq⟩ := h1
        obtain ⟨g1, g2⟩ := gr hs
        exact ⟨true, 0, 0, rfl, Lib.hid (.inr (.inl ⟨rfl, rfl, rfl, q, [], hR, hq, g1, g2⟩))⟩
      | false =>
        obtain ⟨rfl, hs, hq⟩ := h1
        obtain ⟨g1, g2⟩ := gr hs
        exact ⟨false, 0, t.length + 1, rfl, Lib.hid (.inl ⟨rfl, rfl, q, [], hq, by omega, by simp, hR.symm, g1, g2⟩)⟩))
  clear hR hLs ha hba
  go_enter Tryz.func40, Tryz.ntmps40
  go_wp2_with fail
  rw [← hWa]
  refine CE.out.mono ?_
  rintro e w1 ⟨dn, c, n, rfl, HL⟩
  clear CE hWa
  go_wp2_with fail
  go_loopg [5, 6, 7] n (fun gk v5 v6 v7 wr => ∃ (dn : Bool) (c : Nat), v5 = .bool dn ∧ v6 = .int .i64 (c : Int) ∧ Hid (LRel t w b o f R gk dn c wr))
  case atStart => exact ⟨dn, c, rfl, rfl, HL⟩
  case round =>
    obtain ⟨dn, c, rfl, rfl, HL⟩ := hrel
    rcases HL.out with ⟨rfl, rfl, q, acc, hq, hn, hacc, hR, hs, hls⟩ | ⟨rfl, rfl, hn, q, acc, hR, hq, hs, hls⟩ | ⟨hc, hn, hR, q, o', acc, hs, hls⟩
    · have HQ := Lib.hid (And.intro hq (And.intro hn (And.intro hacc hR)))
      obtain ⟨W1, hW1⟩ : ∃ W1, W1 = wr.alloc (.cells #[.int .i64 0, .int .i64 0, .string ⟨#[]⟩, .slice none 0 0, .slice none 0 0] 28) := ⟨_, rfl⟩
      have hb1 : Below wr.heap.size wr W1 := by rw [hW1]; exact below_alloc _ _
      have hbx : W1.heap[wr.heap.size]? = some (.cells #[.int .i64 0, .int .i64 0, str [], .slice none 0 0, .slice none 0 0] 28 (0, 0)) := by rw [hW1]; exact heap_alloc_new wr _
      obtain ⟨vl, rows, hlp⟩ := hls
      have HS1 := Lib.hid (And.intro (hs.below hb1) (And.intro hlp (And.intro hbx hb1)))
      have HZ : Hid (w.heap.size + 2 ≤ wr.heap.size ∧ W1.heap.size = wr.heap.size + 1 ∧ ∀ k, vl.ownBlock = some k → k < wr.heap.size) := Lib.hid ⟨hlp.sz.1, by rw [hW1]; simp, hlp.sz.2⟩
      have CV1 := Lib.hid (CV.out W1 q HS1.out.1.1 hq)
      clear hq hn hacc hR hs hlp hb1 hbx HL
      go_wp2_with fail
      rw [← hW1]
      clear hW1
      cases hx : f q with
      | err c =>
        rw [hx] at CV1
        refine CV1.out.mono ?_
        rintro e w2 ⟨v, cs, rfl, hc, hv, q', o', hs2⟩
        obtain ⟨al, ll, cl, am, lm, cm, rfl, _, _⟩ := hv.open
        have hbx2 := box_frm HS1.out.2.2.1 hs2.2 (by have := HZ.out.1; omega)
        have hb0 := box_cell hbx2 0
        have hb1 := box_cell hbx2 1
        have hb2 := box_cell hbx2 2
        have hb3 := box_cell hbx2 3
        have hb4 := box_cell hbx2 4
        have hfz := box_fr hbx2
        have H2 := Lib.hid (And.intro hs2 (And.intro hbx2 hc))
        clear hs2 hbx2 hv hc CV1
        go_upto_region 6 with fail
        refine wp_any_world (fun W => W.heap[wr.heap.size]? = some (.cells #[.int .i64 v.kind, .int .i64 v.n, str v.s, .slice al ll cl, .slice am lm cm] 28 (0, 0)) ∧ Frm (fun i => i = wr.heap.size) w2 W) (five_set H2.out.2.1 _ _ _ _ _) ?_
        clear hb0 hb1 hb2 hb3 hb4 hfz
        rintro w3 ⟨hb3, hf3⟩
        have HX : Hid (LRel t w b o f R 0 false c w3) := Lib.hid (.inr (.inr ⟨H2.out.2.2, rfl, by
          obtain ⟨hq, hn, hacc, hR⟩ := HQ.out
          obtain ⟨m, rfl⟩ : ∃ m, gk = m + 1 := ⟨gk - 1, by omega⟩
          rw [← hR, itsP, hx], q', o', acc, JSt.grow (HS1.out.1.trans H2.out.1) hf3 (fun i e => by have := HZ.out.1; omega), ⟨vl, rows, HS1.out.2.1.frm (frm3 HS1.out.2.2.2 H2.out.1.2 hf3) (fun i h1 h2 e => by rcases e with e | e <;> omega)⟩⟩))
        have hc0 : ((c : Int) == 0) = false := by rw [beq_eq_false_iff_ne]; have := H2.out.2.2; omega
        have HN : Hid (0 < gk) := Lib.hid (by have := HQ.out; omega)
        clear hb3 hf3 H2 HS1 HZ HQ
        go_wp2_with fail
        go_roundg 0
        case measure => exact HN.out
        case rel => exact ⟨false, c, rfl, rfl, HX⟩
      | ok v q1 =>
        rw [hx] at CV1
        refine CV1.out.mono ?_
        rintro e w2 ⟨cs, rfl, hv, hs2, hq1⟩
        have HVO := Lib.hid hv
        obtain ⟨al, ll, cl, am, lm, cm, rfl, _, _⟩ := hv.open
        have hbx2 := box_frm HS1.out.2.2.1 hs2.2 (by have := HZ.out.1; omega)
        have hb0 := box_cell hbx2 0
        have hb1 := box_cell hbx2 1
        have hb2 := box_cell hbx2 2
        have hb3 := box_cell hbx2 3
        have hb4 := box_cell hbx2 4
        have hfz := box_fr hbx2
        have H2 := Lib.hid (And.intro hs2 (And.intro hbx2 hq1))
        clear hs2 hbx2 hv hq1 CV1
        go_upto_region 6 with fail
        refine wp_any_world (fun W => W.heap[wr.heap.size]? = some (.cells #[.int .i64 v.kind, .int .i64 v.n, str v.s, .slice al ll cl, .slice am lm cm] 28 (0, 0)) ∧ Frm (fun i => i = wr.heap.size) w2 W) (five_set H2.out.2.1 _ _ _ _ _) ?_
        clear hb0 hb1 hb2 hb3 hb4 hfz
        rintro w3 ⟨hb3, hf3⟩
        have hp0 := box_cell hb3 0
        have hp1 := box_cell hb3 1
        have hp2 := box_cell hb3 2
        have hp3 := box_cell hb3 3
        have hp4 := box_cell hb3 4
        have HLP := Lib.hid (HS1.out.2.1.frm (frm3 HS1.out.2.2.2 H2.out.1.2 hf3) (fun i h1 h2 e => by rcases e with e | e <;> omega))
        have HJ := Lib.hid (JSt.grow (HS1.out.1.trans H2.out.1) hf3 (fun i e => by have := HZ.out.1; omega))
        have HV3 : Hid (RdJ w3 (fun i => W1.heap.size ≤ i) v [.int .i64 v.kind, .int .i64 v.n, str v.s, .slice al ll cl, .slice am lm cm]) := Lib.hid (HVO.out.frm hf3 (fun i hi e => by have := HZ.out.2.1; omega))
        have hl3 := box_cell HLP.out.2.1 3
        have hlf := box_fr HLP.out.2.1
        clear hb3 hf3 HVO
        obtain ⟨i0, hi, hz0, hz1, hz2⟩ := info_parts infoJ
        go_wp2_with (at_builtin; refine hold ?_)
        intro _
        have hacc : acc.length ≤ 1000000 := by have := HQ.out; omega
        have hB : w.heap.size + 2 ≤ w3.heap.size := HLP.out.sz.1
        refine wpList_append_lies _ (by rfl) _ _ 25 (by rfl) (w.heap.size + 2) 28 i0 _ 5 80 Tryz.underlying25 hi hz0 hz1 hz2 rfl (by decide) vl acc.length rows.flatten (by rfl) (owns_frm (F := fun _ => False) HLP.out.2.2.1 (Frm.of_below (below_alloc w3 _)) (fun _ _ h => h)) ⟨w3.heap.size, 0, none⟩ 1 1 [.int .i64 v.kind, .int .i64 v.n, str v.s, .slice al ll cl, .slice am lm cm] (by rfl) (by rfl) (World.news_of_block (heap_alloc_new w3 _)) (by simp [Value.oneCell']) (by decide) (by simp only [maxLen]; omega) (by omega) (by simp; omega) _ rfl ?_
        intro g cap w4 ho hg hl4 _
        have hadd := HLP.out.add (v := v) (B0 := W1.heap.size) (by have := HZ.out; omega) (fun k hk => by have := HZ.out.2.2 k hk; have := HZ.out.2.1; omega) HV3.out ho hg (by simpa using hl4)
        have HA := Lib.hid hadd
        have hx3 : w4.cell? ⟨w.heap.size + 1, 3, none⟩ = some vl := by
          have := hg.cell_far ⟨w.heap.size + 1, 3, none⟩ (by simp; omega) (fun e => by have := HLP.out.2.2.1.lt _ e.symm; dsimp only at this; omega)
          rw [this]
          have h2 := (below_alloc w3 (.cells #[.int .i64 v.kind, .int .i64 v.n, .string ⟨v.s.toArray⟩, .slice al ll cl, .slice am lm cm] 28)).cell (p := ⟨w.heap.size + 1, 3, none⟩) (by show w.heap.size + 1 < _; omega)
          exact h2.trans hl3
        have hxf : w4.frozen? ⟨w.heap.size + 1, 3, none⟩ = false := by
          refine box_fr (cs := #[.int .i64 6, .int .i64 0, str [], vl, .slice none 0 0]) (T := 28) ?_ 3
          rw [hg.block _ (by simp; omega) (fun e => by have := HLP.out.2.2.1.lt _ e.symm; omega)]
          exact box_up HLP.out.2.1 (below_alloc w3 _)
        clear hadd ho hg hl4 hi hz0 hz1 hz2 hp0 hp1 hp2 hp3 hp4 hl3 hlf
        go_upto_region 8 with fail
        refine wp_any_world (fun W => LstP w.heap.size (acc ++ [v]) (.slice (some ⟨g, 0, none⟩) (acc.length + 1) cap) (rows ++ [[.int .i64 v.kind, .int .i64 v.n, str v.s, .slice al ll cl, .slice am lm cm]]) W ∧ Frm (fun i => w.heap.size ≤ i) w3 W) HA.out ?_
        clear hx3 hxf HA
        rintro w5 ⟨h5, hf5⟩
        have H5 := Lib.hid (And.intro (JSt.grow HJ.out hf5 (fun i e => by omega)) (⟨_, _, h5⟩ : LstS w.heap.size (acc ++ [v]) w5))
        have CB := Lib.hid (behind_any t b q1 o 93 w5 H5.out.1.1 H2.out.2.2 (by omega) ho)
        have HQ2 : Hid (∃ m, gk = m + 1 ∧ (acc ++ [v]).length + m ≤ t.length + 1 ∧ (match behP t 93 q1 with | .err e => .err e | .ok true r => .ok (acc ++ [v]) r | .ok false r => itsP f t m r (acc ++ [v])) = R ∧ t.length - q < m + 1 ∧ q ≤ q1) := Lib.hid (by
          obtain ⟨hq, hn, hacc, hR⟩ := HQ.out
          obtain ⟨m, rfl⟩ : ∃ m, gk = m + 1 := ⟨gk - 1, by omega⟩
          refine ⟨m, rfl, by simp; omega, ?_, hn, ?_⟩
          · rw [itsP, hx] at hR
            dsimp only at hR
            rw [← hR]
            cases behP t 93 q1 with
            | err e => rfl
            | ok d r => cases d <;> rfl
          · exact hf q v q1 hx)
        clear h5 hf5 HQ HLP HJ HV3 H2 HZ HS1
        go_wp2_with fail
        refine CB.out.mono ?_
        intro e w6 h6
        have key : ∃ (dn' : Bool) (c' n' : Nat), e = .returned (.tuple #[.bool dn', .int .i64 (c' : Int)]) ∧ n' < gk ∧ Hid (LRel t w b o f R n' dn' c' w6) := by
          obtain ⟨m, hm, hlen, hR, hn, hqq⟩ := HQ2.out
          have gr : ∀ {q o' : Nat}, JSt w5 b t q o' w6 → JSt w b t q o' w6 ∧ LstS w.heap.size (acc ++ [v]) w6 := fun {q o'} k => ⟨H5.out.1.trans k, LstS.frm H5.out.2 k.2 (fun i hi _ e => by omega)⟩
          cases hx2 : behP t 93 q1 with
          | err c =>
            rw [hx2] at h6 hR
            obtain ⟨rfl, hc, q', o', hs⟩ := h6
            obtain ⟨g1, g2⟩ := gr hs
            exact ⟨false, c, 0, rfl, by omega, Lib.hid (.inr (.inr ⟨hc, rfl, hR.symm, q', o', _, g1, g2⟩))⟩
          | ok d r =>
            have hlt := behP_lt hx2
            rw [hx2] at h6 hR
            cases d with
            | true =>
              obtain ⟨rfl, hs, hr⟩ := h6
              obtain ⟨g1, g2⟩ := gr hs
              exact ⟨true, 0, 0, rfl, by omega, Lib.hid (.inr (.inl ⟨rfl, rfl, rfl, r, _, hR.symm, hr, g1, g2⟩))⟩
            | false =>
              obtain ⟨rfl, hs, hr⟩ := h6
              obtain ⟨g1, g2⟩ := gr hs
              exact ⟨false, 0, m, rfl, by omega, Lib.hid (.inl ⟨rfl, rfl, r, _, hr, by omega, hlen, hR, g1, g2⟩)⟩
        obtain ⟨dn', c', n', rfl, hlt, HL'⟩ := key
        have HLT := Lib.hid hlt
        clear h6 hlt HQ2 H5 CB
        go_wp2_with fail
        go_roundg n'
        case measure => exact HLT.out
        case rel => exact ⟨dn', c', rfl, rfl, HL'⟩
    · have HH := Lib.hid (And.intro hR (And.intro hq (And.intro hs hls)))
      obtain ⟨vl, rows, hlp⟩ := hls
      obtain ⟨va, vc, rfl⟩ := own_slice hlp.2.2.1
      have e0 := box_cell hlp.2.1 0
      have e1 := box_cell hlp.2.1 1
      have e2 := box_cell hlp.2.1 2
      have e3 := box_cell hlp.2.1 3
      have e4 := box_cell hlp.2.1 4
      have d0 := box_cell hlp.1 0
      have d1 := box_cell hlp.1 1
      have d2 := box_cell hlp.1 2
      have d3 := box_cell hlp.1 3
      have d4 := box_cell hlp.1 4
      have df := box_fr hlp.1
      have HP := Lib.hid hlp
      clear hlp hR hq hs hn HL
      go_wp2_with fail
      refine bodyPost_any_world (fun W => W.heap[w.heap.size]? = some (.cells #[.int .i64 6, .int .i64 0, str [], .slice va acc.length vc, .slice none 0 0] 28 (0, 0)) ∧ Frm (fun i => i = w.heap.size) wr W) (five_set HP.out.1 _ _ _ _ _) ?_
      clear e0 e1 e2 e3 e4 d0 d1 d2 d3 d4 df
      rintro w9 ⟨h9, hf9⟩
      have k0 := box_cell h9 0
      have k1 := box_cell h9 1
      have k2 := box_cell h9 2
      have k3 := box_cell h9 3
      have k4 := box_cell h9 4
      refine bodyPost_ret (v := .tuple #[.agg #[.int .i64 6, .int .i64 0, str [], .slice va acc.length vc, .slice none 0 0], .int .i64 0]) (by simp [results, Tryz.results40, go_sem, k0, k1, k2, k3, k4]) rfl ?_
      rw [HH.out.1]
      refine ⟨[.int .i64 6, .int .i64 0, str [], .slice va acc.length vc, .slice none 0 0], rfl, ?_, JSt.grow HH.out.2.2.1 hf9 (fun i e => by omega), HH.out.2.1⟩
      refine lstJ (HP.out.2.2.1) HP.out.2.2.2 hf9
    · have HH := Lib.hid (And.intro hR (And.intro hs hc))
      obtain ⟨vl, rows, hlp⟩ := hls
      obtain ⟨va, vc, rfl⟩ := own_slice hlp.2.2.1
      have e0 := box_cell hlp.2.1 0
      have e1 := box_cell hlp.2.1 1
      have e2 := box_cell hlp.2.1 2
      have e3 := box_cell hlp.2.1 3
      have e4 := box_cell hlp.2.1 4
      have d0 := box_cell hlp.1 0
      have d1 := box_cell hlp.1 1
      have d2 := box_cell hlp.1 2
      have d3 := box_cell hlp.1 3
      have d4 := box_cell hlp.1 4
      have df := box_fr hlp.1
      have hc0 : ((c : Int) == 0) = false := by rw [beq_eq_false_iff_ne]; omega
      have HP := Lib.hid hlp
      clear hlp hR hs hn HL hc
      go_wp2_with fail
      refine bodyPost_any_world (fun W => W.heap[w.heap.size]? = some (.cells #[.int .i64 6, .int .i64 0, str [], .slice va acc.length vc, .slice none 0 0] 28 (0, 0)) ∧ Frm (fun i => i = w.heap.size) wr W) (five_set HP.out.1 _ _ _ _ _) ?_
      clear e0 e1 e2 e3 e4 d0 d1 d2 d3 d4 df
      rintro w9 ⟨h9, hf9⟩
      have k0 := box_cell h9 0
      have k1 := box_cell h9 1
      have k2 := box_cell h9 2
      have k3 := box_cell h9 3
      have k4 := box_cell h9 4
      refine bodyPost_ret (v := .tuple #[.agg #[.int .i64 6, .int .i64 0, str [], .slice va acc.length vc, .slice none 0 0], .int .i64 (c : Int)]) (by simp [results, Tryz.results40, go_sem, k0, k1, k2, k3, k4]) rfl ?_
      rw [HH.out.1]
      refine ⟨.mk 6 0 [] acc [], [.int .i64 6, .int .i64 0, str [], .slice va acc.length vc, .slice none 0 0], rfl, HH.out.2.2, ?_, q, o', JSt.grow HH.out.2.1 hf9 (fun i e => by omega)⟩
      refine lstJ (HP.out.2.2.1) HP.out.2.2.2 hf9
end Go.Proofs.YtidlhajibjnkeaaGreatDoor
