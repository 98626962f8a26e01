/- hbllaw4.names: the first n members, names and values (for the document) side by side. -/
import Derived.Test.YtidlhajibjnkeaaGreatDoorNmSt
namespace Go.Proofs.YtidlhajibjnkeaaGreatDoor
open Go.RowKit
attribute [local go_sem] Oper.semAt_some wide_fn wide_depth

theorem infoNmS : (Tryz.prog.info? 9).map (fun i => (i.zero, i.size, i.bytes)) = some (some (str []), 1, 16) := by kernel_rfl
/-- What names tells. -/
def NmsP (w : World) (l : List MemT) (e : Ending) (w' : World) : Prop :=
  ∃ va vb rows, e = .returned (.tuple #[va, vb]) ∧ w'.ownsRow w.heap.size 9 1 va l.length (l.map (fun p => str p.1)) ∧ w'.ownsRow w.heap.size 35 5 vb l.length rows.flatten ∧ RdL w' (fun i => w.heap.size ≤ i ∧ vb.ownBlock ≠ some i) (l.map (·.2)) rows ∧ Below w.heap.size w w'
/-- What names keeps from round to round. -/
def NmI (D N : Nat) (w : World) (pre : List MemT) (W : World) : Prop :=
  ∃ va vb rows, W.heap[D + 1]? = some (.cells #[va] 54 (0, 0)) ∧ W.heap[D + 2]? = some (.cells #[vb] 32 (0, 0)) ∧ W.heap[D]? = some (.cells #[.int .i64 (N : Int)] 3 (0, 0)) ∧
    W.ownsRow (D + 3) 9 1 va pre.length (pre.map (fun p => str p.1)) ∧ W.ownsRow (D + 3) 35 5 vb pre.length rows.flatten ∧
    RdL W (fun i => D + 3 ≤ i ∧ i < W.heap.size ∧ va.ownBlock ≠ some i ∧ vb.ownBlock ≠ some i) (pre.map (·.2)) rows ∧ Below D w W ∧ D + 3 ≤ W.heap.size
/-- What is told of the world ahead of a round. -/
def XNm (D : Nat) (W : World) : Prop := ∃ va vb, W.heap[D + 1]? = some (.cells #[va] 54 (0, 0)) ∧ W.heap[D + 2]? = some (.cells #[vb] 32 (0, 0)) ∧ (∀ g, va.ownBlock = some g → g < W.heap.size) ∧ (∀ g, vb.ownBlock = some g → g < W.heap.size) ∧ D + 3 ≤ W.heap.size
theorem NmI.x {D N : Nat} {w : World} {pre : List MemT} {W : World} (h : NmI D N w pre W) : XNm D W := by
  obtain ⟨va, vb, rows, h1, h2, _, h4, h5, _, _, h8⟩ := h
  exact ⟨va, vb, h1, h2, fun g hg => (h4.lt g hg).2, fun g hg => (h5.lt g hg).2, h8⟩
theorem RdL.grownN {F : Nat → Prop} {W W' : World} {row : Option Nat} {l : List JV} {rs : List (List Value)} (h : RdL W F l rs) (hg : W.grownBy W' row) (hr : ∀ r, row = some r → ∃ o, W.heap[r]? = some o ∧ o.isCells = false) : RdL W' F l rs :=
  h.move (fun _ _ _ _ h => h.grownN hg hr)
theorem nmI_own (D N : Nat) (w : World) {B : Nat} (hB : D + 3 ≤ B) : OwnFromT (fun _ => False) B (NmI D N w) := by
  rintro pre X Y row ⟨va, vb, rows, h1, h2, h3, h4, h5, h6, h7, h8⟩ hg hr
  have hr2 : ∀ r, row = some r → ∃ o, X.heap[r]? = some o ∧ o.isCells = false := fun r e => by
    obtain ⟨_, o, ho, h⟩ := hr r e
    rcases h with h | ⟨_, _, _, _, h⟩
    · exact ⟨o, ho, h⟩
    exact h.elim
  have nc : ∀ {k : Nat} {c : Array Value} {T : TypeId} {p : Nat × Nat}, X.heap[k]? = some (.cells c T p) → ¬ row = some k := fun hk e => by
    obtain ⟨o, ho, hn⟩ := hr2 _ e
    rw [hk] at ho
    cases ho
    cases hn
  have f : Frm (fun i => row = some i) X Y := Frm.of_grown hg (fun _ h => h)
  refine ⟨va, vb, rows, box_frm h1 f (nc h1), box_frm h2 f (nc h2), box_frm h3 f (nc h3), owns_frm h4 f (fun k hk => ?_), owns_frm h5 f (fun k hk => ?_), (h6.grownN hg hr2).mono (fun i hi hF => ⟨hF.1, hi, hF.2.2⟩), h7.grown hg (by omega) (fun k e => by have := (hr k e).1; omega), Nat.le_trans h8 hg.size⟩
  · obtain ⟨c, p, h⟩ := row_type h4 hk
    exact nc h
  obtain ⟨c, p, h⟩ := row_type h5 hk
  exact nc h
theorem names_none (f : Value) (n : Int) (w : World) (hf : ∃ g lb, f = .func (.func g) #[] lb) (h1 : n < 1) :
    Calls Tryz.prog 19 #[f, .int .i64 n] w fun e w' => e = .returned (.tuple #[.slice none 0 0, .slice none 0 0]) ∧ Below w.heap.size w w' := by
  obtain ⟨g, lb, rfl⟩ := hf
  have hfn : ∀ w, (binOp .eql 58 (.func (.func g) #[] lb) .nilFunc).run Tryz.prog w = .ok (.bool false) w := fun w => by kernel_rfl
  go_enter Tryz.func19, Tryz.ntmps19
  go_wp2
  go_ret2
  exact ⟨rfl, (((Below.refl _ w).alloc (Nat.le_refl _) _).alloc (by simp) _).alloc (by simp; omega) _⟩
set_option maxRecDepth 100000 in
set_option maxHeartbeats 8000000 in
theorem names_any {v : JV} {B : Nat} {cs : List Value} {w : World} (hsz : szV v ≤ 1000000000) (hok : MemOk B v cs w) (n : Int) (h1 : 1 ≤ n) :
    Calls Tryz.prog 19 #[.func (.func 35) #[] #[.pointer (some ⟨B, 0, none⟩)], .int .i64 n] w (NmsP w ((memL v).take n.toNat)) := by
  have hfn : ∀ w, (binOp .eql 58 (.func (.func 35) #[] #[.pointer (some ⟨B, 0, none⟩)]) .nilFunc).run Tryz.prog w = .ok (.bool false) w := fun w => by kernel_rfl
  obtain ⟨i0, hi, hz0, hz1, hz2⟩ := info_parts infoNmS
  obtain ⟨i1, gi, gz0, gz1, gz2⟩ := info_parts infoQ
  obtain ⟨N, hN, hN1⟩ : ∃ N : Nat, n = (N : Int) ∧ 1 ≤ N := ⟨n.toNat, by omega, by omega⟩
  subst hN
  obtain ⟨xs, hxs⟩ : ∃ xs, xs = memL v := ⟨_, rfl⟩
  have hx : xs.length ≤ 1000000000 := by
    rw [hxs]
    have := szV_mk v
    have := szM_len v.m
    unfold memL
    split
    · omega
    simp
  have hxz : ∀ p ∈ xs, szV p.2 ≤ 1000000000 := by
    rw [hxs]
    intro p hp
    unfold memL at hp
    split at hp
    · have := szV_mk v
      have := szM_mem hp
      omega
    cases hp
  have hsq : ∀ W', SeqsV (fun _ => False) Tryz.prog 35 #[.pointer (some ⟨B, 0, none⟩)] (MbR (XNm w.heap.size)) (fun W => MemOk B v cs W ∧ XNm w.heap.size W) NmT xs W' := by
    intro W'; rw [hxs]; exact mems_any _ hsz
  have hBw : B < w.heap.size := (Array.getElem?_eq_some_iff.1 hok.1).1
  have hOk : ∀ pre W, NmI w.heap.size N w pre W → MemOk B v cs W ∧ XNm w.heap.size W := fun pre W h => by
    refine ⟨?_, h.x⟩
    obtain ⟨_, _, _, _, _, _, _, _, _, hb, _⟩ := h
    exact ⟨box_up hok.1 hb, hok.2.up hb⟩
  rw [← hxs]
  clear hxs hok hsz
  refine (callsIn_wide (n := 9)).1 ?_
  refine callsIn_of_wp_marks Tryz.func19 rfl trivial ?_ rfl
  simp only [Tryz.ntmps19, List.size_toArray, List.length_cons, List.length_nil, Nat.reduceAdd, Nat.reduceSub, Array.replicate_succ, Array.replicate_zero, List.push_toArray, List.append_toArray, List.nil_append, List.cons_append]
  gi_wp2
  have bN := heap_alloc_new w (.cells #[.int .i64 (N : Int)] 3)
  have bA := heap_alloc_new (w.alloc (.cells #[.int .i64 (N : Int)] 3)) (.cells #[.slice none 0 0] 54)
  have bB := heap_alloc_new ((w.alloc (.cells #[.int .i64 (N : Int)] 3)).alloc (.cells #[.slice none 0 0] 54)) (.cells #[.slice none 0 0] 32)
  simp only [World.size_alloc] at bA bB
  have hB0 : Below w.heap.size w (((w.alloc (.cells #[.int .i64 (N : Int)] 3)).alloc (.cells #[.slice none 0 0] 54)).alloc (.cells #[.slice none 0 0] 32)) := (((Below.refl _ w).alloc (Nat.le_refl _) _).alloc (by simp) _).alloc (by simp; omega) _
  refine range_lawVA (Tw := fun _ => False) (gf := 35) (lb := #[.pointer (some ⟨B, 0, none⟩)]) rfl (by intro args w; rfl) (R := MbR (XNm w.heap.size)) (Ok := fun W => MemOk B v cs W ∧ XNm w.heap.size W) (Wr := NmT) (xs := xs) (fun W' _ => hsq W')
    (by rintro x args W ⟨_, _, rfl, _⟩; rfl) (fun x args => mbR_own _ _ x args)
    (fun pre W => NmI w.heap.size N w pre W ∧ pre.length < N)
    (fun c pre W => NmI w.heap.size N w pre W ∧ c = .exit 0 ∧ pre.length = N)
    (OwnFromT.and (nmI_own _ N w (by simp)) (ownFromT_pure _ _ (fun pre : List MemT => pre.length < N)))
    (fun c => OwnFromT.and (nmI_own _ N w (by simp)) (ownFromT_pure _ _ (fun pre : List MemT => c = .exit 0 ∧ pre.length = N)))
    ⟨⟨_, _, [], box_up bA (below_alloc _ _), bB, box_up (box_up bN (below_alloc _ _)) (below_alloc _ _), World.ownsRow_nil _ _ _ _, World.ownsRow_nil _ _ _ _, by simp [RdL], hB0, by simp⟩, by simp; omega⟩ (fun pre W h => hOk pre W h.1)
    (fun args b => { tmps := #[.func (.func 35) #[] #[.pointer (some ⟨B, 0, none⟩)], .int .i64 (N : Int), undef, .pointer (some ⟨w.heap.size, 0, none⟩), .slice none 0 0, .slice none 0 0, .pointer (some ⟨w.heap.size + 1, 0, none⟩), .pointer (some ⟨w.heap.size + 2, 0, none⟩), args.getD 0 undef, .pointer (some ⟨b, 0, none⟩), .func (.func 35) #[] #[.pointer (some ⟨B, 0, none⟩)], .bool false, .bool false, .int .i64 (N : Int), .bool (decide ((N : Int) < 1)), .bool (decide ((N : Int) < 1)), .func (.func 35) #[] #[.pointer (some ⟨B, 0, none⟩)], args.getD 0 undef, args.getD 1 undef, undef, undef, undef, undef, undef, undef, undef, undef, undef, undef, undef, undef, undef, undef, undef], defers := [] }) (fun args => .cells (args.getD 1 undef).cells 28) ?assign ?body ?done ?stop
  case assign =>
    rintro l x args W K ⟨cs', W1, rfl, _, _, _, hv⟩ hK
    obtain ⟨a2, n2, c2, a3, m3, c3, rfl, _, _⟩ := hv.open
    gi_wp2
    exact hK
  case body =>
    rintro l2 pre ⟨k, x⟩ args b W _ hDb hob ⟨⟨va, vb, rows, g1, g2, g3, g4, g5, g6, g7, g8⟩, hlt⟩ ⟨cs', W1, rfl, ⟨va', vb', x1, x2, x3, x4, x5⟩, hsz1, hsame, hxv⟩ ⟨t, ht⟩
    obtain ⟨xa, xl, xc, xb, xm, xd, rfl, _, _⟩ := id hxv.open
    dsimp only at hxv
    obtain rfl : va = va' := by have := hsame _ _ _ _ x1; rw [g1] at this; cases this; rfl
    obtain rfl : vb = vb' := by have := hsame _ _ _ _ x2; rw [g2] at this; cases this; rfl
    simp only [World.size_alloc] at hDb
    have hsx := Lib.hid (hxz (k, x) (by rw [ht]; simp))
    have hlen : pre.length + 1 ≤ 1000000000 := by rw [ht] at hx; simp at hx; omega
    obtain ⟨ka, hka⟩ : ∃ k, k = pre.map (fun p : MemT => str p.1) := ⟨_, rfl⟩
    obtain ⟨kb, hkb⟩ : ∃ k, k = pre.map (fun p : MemT => p.2) := ⟨_, rfl⟩
    have hla : ka.length = pre.length := by rw [hka]; simp
    have hlb : kb.length = pre.length := by rw [hkb]; simp
    rw [← hka, ← hla] at g4
    rw [← hkb] at g6
    rw [← hlb] at g5
    have lena1 : ka.length + 1 ≤ maxLen := by rw [hla]; simp only [maxLen]; omega
    have lena2 : (ka.length + 1) * 16 ≤ 140737488355328 := by omega
    have lenb1 : kb.length + 1 ≤ maxLen := by rw [hlb]; simp only [maxLen]; omega
    have lenb2 : (kb.length + 1) * 80 ≤ 140737488355328 := by omega
    have hsW1 : w.heap.size + 3 ≤ W1.heap.size := x5
    have H : NSt (w.heap.size + 3) w.heap.size W1.heap.size W.heap.size (w.heap.size + 1) (w.heap.size + 2) w.heap.size b W W va vb (.int .i64 (N : Int)) va vb ka kb rows x [.int .i64 x.kind, .int .i64 x.n, str x.s, .slice xa xl xc, .slice xb xm xd] :=
      ⟨g1, g2, g3, hob, g4, g5, g6, hxv.mono (fun i hi hF => ⟨hF, hi⟩), fun g hg hh => by have := x3 g hg; omega, fun g hg hh => by have := x4 g hg; omega, KT.refl _ _ _, Below.refl _ _, Nat.le_refl _, by omega⟩
    have H := H.up (Below.drewsN (Below.refl _ W) 1)
    change NSt _ _ _ _ _ _ _ _ _ W.drew _ _ _ _ _ _ _ _ _ _ at H
    have HH := Lib.hid (And.intro g7 (And.intro ht (And.intro hka (And.intro hkb (And.intro hla (And.intro hlb g8))))))
    clear hla hlb g1 g2 g3 g4 g5 g6 g7 g8 hob hxv hsame x1 x2 x3 x4 x5 hsW1 hDb hB0 bN bA bB ht hka hkb hx hxz hsq hOk
    have hm : Tryz.prog.follows .mixedOrders = true := by kernel_rfl
    dsimp only
    gi_wp2
    refine cut_region (fun a W2 => ∃ ta tc td ga cpa gb cpb us, a = { tmps := #[.func (.func 35) #[] #[.pointer (some ⟨B, 0, none⟩)], .int .i64 (N : Int), undef, .pointer (some ⟨w.heap.size, 0, none⟩), .slice none 0 0, .slice none 0 0, .pointer (some ⟨w.heap.size + 1, 0, none⟩), .pointer (some ⟨w.heap.size + 2, 0, none⟩), str k, .pointer (some ⟨b, 0, none⟩), .func (.func 35) #[] #[.pointer (some ⟨B, 0, none⟩)], .bool false, .bool false, .int .i64 (N : Int), .bool (decide ((N : Int) < 1)), .bool (decide ((N : Int) < 1)), .func (.func 35) #[] #[.pointer (some ⟨B, 0, none⟩)], str k, .agg #[.int .i64 x.kind, .int .i64 x.n, str x.s, .slice xa xl xc, .slice xb xm xd], va, str k, ta, .slice (some ⟨ga, 0, none⟩) (ka.length + 1) cpa, vb, .agg #[.int .i64 x.kind, .int .i64 x.n, str x.s, .slice xa xl xc, .slice xb xm xd], tc, td, .slice (some ⟨gb, 0, none⟩) (kb.length + 1) cpb, undef, undef, undef, undef, undef, undef], defers := [] } ∧
      NSt (w.heap.size + 3) w.heap.size W1.heap.size W.heap.size (w.heap.size + 1) (w.heap.size + 2) w.heap.size b W W2 (.slice (some ⟨ga, 0, none⟩) (ka.length + 1) cpa) (.slice (some ⟨gb, 0, none⟩) (kb.length + 1) cpb) (.int .i64 (N : Int)) (.slice (some ⟨ga, 0, none⟩) (ka.length + 1) cpa) (.slice (some ⟨gb, 0, none⟩) (kb.length + 1) cpb) (ka ++ [str k]) (kb ++ [x]) (rows ++ [us]) x [.int .i64 x.kind, .int .i64 x.n, str x.s, .slice xa xl xc, .slice xb xm xd]) ?_ ?_
    refine wpIn_region_any hm ?_
    change wpAnyIn _ _ _ _ _ _ _ _ _ (World.drew _)
    refine any_inRound rfl (by kernel_rfl) _ _ _ _ ?_
    generalize W.drew = W9 at H ⊢
    -- REGION
    refine wpAnyIn_take (i := 1) (v := ?v1) rfl rfl (by kernel_rfl) (by kernel_rfl) (by kernel_rfl) (fun _ _ _ h => (nomatch h.1)) ⟨Or.inl ⟨by rfl, ?hy1⟩, fun _ => rfl⟩ ?_
    case hy1 => (intro w; go_simp; try with_reducible rfl)
    go_simp
    refine wpAnyIn_ready (rs := [0, 2, 4, 5]) (by kernel_rfl) (by simp) (AllReadyIn.cons rfl (fun K hK => ?_) (AllReadyIn.cons rfl (fun K hK => ?_) (AllReadyIn.cons rfl (fun K hK => ?_) (AllReadyIn.cons rfl (fun K hK => ?_) AllReadyIn.nil))))
    · have cq := box_cell H.ba 0
      go_simp
      refine hK _ _ ?_
      clear hK K cq
      refine wpAnyIn_ready (rs := [2, 4, 5]) (by kernel_rfl) (by simp) (AllReadyIn.cons rfl (fun K hK => ?_) (AllReadyIn.cons rfl (fun K hK => ?_) (AllReadyIn.cons rfl (fun K hK => ?_) AllReadyIn.nil)))
      · go_simp
        refine hK _ _ ?_
        clear hK K
        obtain ⟨H, TA⟩ := H.temp [str k] 9
        refine wpAnyIn_ready (rs := [3, 4, 5]) (by kernel_rfl) (by simp) (AllReadyIn.cons rfl (fun K hK => ?_) (AllReadyIn.cons rfl (fun K hK => ?_) (AllReadyIn.cons rfl (fun K hK => ?_) AllReadyIn.nil)))
        · refine step_liesIn (by rfl) _ _ 54 (by rfl) Tryz.underlying54 hi hz0 hz1 hz2 rfl (by decide) (by rfl) H.ra [str k] (by rfl) TA (by rfl) (by simp [Value.oneCell']) lena1 lena2 H.base ?_
          intro ga cpa W' hr hg hl
          refine hK _ _ ?_
          clear hK K
          have H := H.appA hr hg hl
          clear hr hg hl TA
          go_simp
          refine wpAnyIn_ready (rs := [4, 5]) (by kernel_rfl) (by simp) (AllReadyIn.cons rfl (fun K hK => ?_) (AllReadyIn.cons rfl (fun K hK => ?_) AllReadyIn.nil))
          · have cq := box_cell H.bb 0
            go_simp
            refine hK _ _ ?_
            clear hK K cq
            refine wpAnyIn_ready (rs := [5]) (by kernel_rfl) (by simp) (AllReadyIn.cons rfl (fun K hK => ?_) AllReadyIn.nil)
            have c0 := box_cell H.bx 0
            have c1 := box_cell H.bx 1
            have c2 := box_cell H.bx 2
            have c3 := box_cell H.bx 3
            have c4 := box_cell H.bx 4
            go_simp
            refine hK _ _ ?_
            clear hK K c0 c1 c2 c3 c4
            refine wpAnyIn_ready (rs := [6]) (by kernel_rfl) (by simp) (AllReadyIn.cons rfl (fun K hK => ?_) AllReadyIn.nil)
            go_simp
            refine (callsIn_wide.2 (plain_any x hsx.out _ _ _ H.rx)).mono ?_
            rintro e W2 ⟨us, rfl, hy, hb2⟩
            obtain ⟨ya, yl, yc, yb, ym, yd, rfl, _, _⟩ := id hy.open
            refine hK _ _ ?_
            clear hK K
            have SA := fun g hg => (H.ra.lt g hg).2
            have SB := fun g hg => (H.rb.lt g hg).2
            have S9 := H.base
            have H := H.up hb2
            clear hb2
            go_simp
            refine wpAnyIn_ready (rs := [7]) (by kernel_rfl) (by simp) (AllReadyIn.cons rfl (fun K hK => ?_) AllReadyIn.nil)
            go_simp
            refine hK _ _ ?_
            clear hK K
            obtain ⟨H, TB⟩ := H.temp [.int .i64 x.kind, .int .i64 x.n, str x.s, .slice ya yl yc, .slice yb ym yd] 35
            have hy := temp_rd hy (.cells ([.int .i64 x.kind, .int .i64 x.n, str x.s, .slice ya yl yc, .slice yb ym yd] : List Value).toArray 35)
            refine wpAnyIn_ready (rs := [8]) (by kernel_rfl) (by simp) (AllReadyIn.cons rfl (fun K hK => ?_) AllReadyIn.nil)
            refine step_liesIn (by rfl) _ _ 32 (by rfl) Tryz.underlying32 gi gz0 gz1 gz2 rfl (by decide) (by rfl) H.rb [.int .i64 x.kind, .int .i64 x.n, str x.s, .slice ya yl yc, .slice yb ym yd] (by rfl) TB (by rfl) (by simp [Value.oneCell']) lenb1 lenb2 H.base ?_
            intro gb cpb W' hr hg hl
            refine hK _ _ ?_
            clear hK K
            have H := H.appB hr hg hl hy S9 SA SB
            clear hr hg hl TB
            go_simp
            refine wpAnyIn_ready (rs := [9]) (by kernel_rfl) (by simp) (AllReadyIn.cons rfl (fun K hK => ?_) AllReadyIn.nil)
            have cq := box_cell H.ba 0
            have fq := box_fr H.ba
            go_simp
            refine hK _ _ ?_
            clear hK K cq fq
            have H := H.setA (.slice (some ⟨ga, 0, none⟩) (ka.length + 1) cpa)
            refine wpAnyIn_ready (rs := [10]) (by kernel_rfl) (by simp) (AllReadyIn.cons rfl (fun K hK => ?_) AllReadyIn.nil)
            have cq := box_cell H.bb 0
            have fq := box_fr H.bb
            go_simp
            refine hK _ _ ?_
            clear hK K cq fq
            have H := H.setB (.slice (some ⟨gb, 0, none⟩) (kb.length + 1) cpb)
            refine wpAnyIn_done (by kernel_rfl) ?_ _
            exact ⟨rfl, _, _, _, _, _, _, _, rfl, _, H⟩
          have c0 := box_cell H.bx 0
          have c1 := box_cell H.bx 1
          have c2 := box_cell H.bx 2
          have c3 := box_cell H.bx 3
          have c4 := box_cell H.bx 4
          go_simp
          refine hK _ _ ?_
          clear hK K c0 c1 c2 c3 c4
          refine wpAnyIn_ready (rs := [4, 6]) (by kernel_rfl) (by simp) (AllReadyIn.cons rfl (fun K hK => ?_) (AllReadyIn.cons rfl (fun K hK => ?_) AllReadyIn.nil))
          · have cq := box_cell H.bb 0
            go_simp
            refine hK _ _ ?_
            clear hK K cq
            refine wpAnyIn_ready (rs := [6]) (by kernel_rfl) (by simp) (AllReadyIn.cons rfl (fun K hK => ?_) AllReadyIn.nil)
            go_simp
            refine (callsIn_wide.2 (plain_any x hsx.out _ _ _ H.rx)).mono ?_
            rintro e W2 ⟨us, rfl, hy, hb2⟩
            obtain ⟨ya, yl, yc, yb, ym, yd, rfl, _, _⟩ := id hy.open
            refine hK _ _ ?_
            clear hK K
            have SA := fun g hg => (H.ra.lt g hg).2
            have SB := fun g hg => (H.rb.lt g hg).2
            have S9 := H.base
            have H := H.up hb2
            clear hb2
            go_simp
            refine wpAnyIn_ready (rs := [7]) (by kernel_rfl) (by simp) (AllReadyIn.cons rfl (fun K hK => ?_) AllReadyIn.nil)
            go_simp
            refine hK _ _ ?_
            clear hK K
            obtain ⟨H, TB⟩ := H.temp [.int .i64 x.kind, .int .i64 x.n, str x.s, .slice ya yl yc, .slice yb ym yd] 35
            have hy := temp_rd hy (.cells ([.int .i64 x.kind, .int .i64 x.n, str x.s, .slice ya yl yc, .slice yb ym yd] : List Value).toArray 35)
            refine wpAnyIn_ready (rs := [8]) (by kernel_rfl) (by simp) (AllReadyIn.cons rfl (fun K hK => ?_) AllReadyIn.nil)
            refine step_liesIn (by rfl) _ _ 32 (by rfl) Tryz.underlying32 gi gz0 gz1 gz2 rfl (by decide) (by rfl) H.rb [.int .i64 x.kind, .int .i64 x.n, str x.s, .slice ya yl yc, .slice yb ym yd] (by rfl) TB (by rfl) (by simp [Value.oneCell']) lenb1 lenb2 H.base ?_
            intro gb cpb W' hr hg hl
            refine hK _ _ ?_
            clear hK K
            have H := H.appB hr hg hl hy S9 SA SB
            clear hr hg hl TB
            go_simp
            refine wpAnyIn_ready (rs := [9]) (by kernel_rfl) (by simp) (AllReadyIn.cons rfl (fun K hK => ?_) AllReadyIn.nil)
            have cq := box_cell H.ba 0
            have fq := box_fr H.ba
            go_simp
            refine hK _ _ ?_
            clear hK K cq fq
            have H := H.setA (.slice (some ⟨ga, 0, none⟩) (ka.length + 1) cpa)
            refine wpAnyIn_ready (rs := [10]) (by kernel_rfl) (by simp) (AllReadyIn.cons rfl (fun K hK => ?_) AllReadyIn.nil)
            have cq := box_cell H.bb 0
            have fq := box_fr H.bb
            go_simp
            refine hK _ _ ?_
            clear hK K cq fq
            have H := H.setB (.slice (some ⟨gb, 0, none⟩) (kb.length + 1) cpb)
            refine wpAnyIn_done (by kernel_rfl) ?_ _
            exact ⟨rfl, _, _, _, _, _, _, _, rfl, _, H⟩
          go_simp
          refine (callsIn_wide.2 (plain_any x hsx.out _ _ _ H.rx)).mono ?_
          rintro e W2 ⟨us, rfl, hy, hb2⟩
          obtain ⟨ya, yl, yc, yb, ym, yd, rfl, _, _⟩ := id hy.open
          refine hK _ _ ?_
          clear hK K
          have SA := fun g hg => (H.ra.lt g hg).2
          have SB := fun g hg => (H.rb.lt g hg).2
          have S9 := H.base
          have H := H.up hb2
          clear hb2
          go_simp
          refine wpAnyIn_ready (rs := [4, 7]) (by kernel_rfl) (by simp) (AllReadyIn.cons rfl (fun K hK => ?_) (AllReadyIn.cons rfl (fun K hK => ?_) AllReadyIn.nil))
          · have cq := box_cell H.bb 0
            go_simp
            refine hK _ _ ?_
            clear hK K cq
            refine wpAnyIn_ready (rs := [7]) (by kernel_rfl) (by simp) (AllReadyIn.cons rfl (fun K hK => ?_) AllReadyIn.nil)
            go_simp
            refine hK _ _ ?_
            clear hK K
            obtain ⟨H, TB⟩ := H.temp [.int .i64 x.kind, .int .i64 x.n, str x.s, .slice ya yl yc, .slice yb ym yd] 35
            have hy := temp_rd hy (.cells ([.int .i64 x.kind, .int .i64 x.n, str x.s, .slice ya yl yc, .slice yb ym yd] : List Value).toArray 35)
            refine wpAnyIn_ready (rs := [8]) (by kernel_rfl) (by simp) (AllReadyIn.cons rfl (fun K hK => ?_) AllReadyIn.nil)
            refine step_liesIn (by rfl) _ _ 32 (by rfl) Tryz.underlying32 gi gz0 gz1 gz2 rfl (by decide) (by rfl) H.rb [.int .i64 x.kind, .int .i64 x.n, str x.s, .slice ya yl yc, .slice yb ym yd] (by rfl) TB (by rfl) (by simp [Value.oneCell']) lenb1 lenb2 H.base ?_
            intro gb cpb W' hr hg hl
            refine hK _ _ ?_
            clear hK K
            have H := H.appB hr hg hl hy S9 SA SB
            clear hr hg hl TB
            go_simp
            refine wpAnyIn_ready (rs := [9]) (by kernel_rfl) (by simp) (AllReadyIn.cons rfl (fun K hK => ?_) AllReadyIn.nil)
            have cq := box_cell H.ba 0
            have fq := box_fr H.ba
            go_simp
            refine hK _ _ ?_
            clear hK K cq fq
            have H := H.setA (.slice (some ⟨ga, 0, none⟩) (ka.length + 1) cpa)
            refine wpAnyIn_ready (rs := [10]) (by kernel_rfl) (by simp) (AllReadyIn.cons rfl (fun K hK => ?_) AllReadyIn.nil)
            have cq := box_cell H.bb 0
            have fq := box_fr H.bb
            go_simp
            refine hK _ _ ?_
            clear hK K cq fq
            have H := H.setB (.slice (some ⟨gb, 0, none⟩) (kb.length + 1) cpb)
            refine wpAnyIn_done (by kernel_rfl) ?_ _
            exact ⟨rfl, _, _, _, _, _, _, _, rfl, _, H⟩
          go_simp
          refine hK _ _ ?_
          clear hK K
          obtain ⟨H, TB⟩ := H.temp [.int .i64 x.kind, .int .i64 x.n, str x.s, .slice ya yl yc, .slice yb ym yd] 35
          have hy := temp_rd hy (.cells ([.int .i64 x.kind, .int .i64 x.n, str x.s, .slice ya yl yc, .slice yb ym yd] : List Value).toArray 35)
          refine wpAnyIn_ready (rs := [4]) (by kernel_rfl) (by simp) (AllReadyIn.cons rfl (fun K hK => ?_) AllReadyIn.nil)
          have cq := box_cell H.bb 0
          go_simp
          refine hK _ _ ?_
          clear hK K cq
          refine wpAnyIn_ready (rs := [8]) (by kernel_rfl) (by simp) (AllReadyIn.cons rfl (fun K hK => ?_) AllReadyIn.nil)
          refine step_liesIn (by rfl) _ _ 32 (by rfl) Tryz.underlying32 gi gz0 gz1 gz2 rfl (by decide) (by rfl) H.rb [.int .i64 x.kind, .int .i64 x.n, str x.s, .slice ya yl yc, .slice yb ym yd] (by rfl) TB (by rfl) (by simp [Value.oneCell']) lenb1 lenb2 H.base ?_
          intro gb cpb W' hr hg hl
          refine hK _ _ ?_
          clear hK K
          have H := H.appB hr hg hl hy S9 SA SB
          clear hr hg hl TB
          go_simp
          refine wpAnyIn_ready (rs := [9]) (by kernel_rfl) (by simp) (AllReadyIn.cons rfl (fun K hK => ?_) AllReadyIn.nil)
          have cq := box_cell H.ba 0
          have fq := box_fr H.ba
          go_simp
          refine hK _ _ ?_
          clear hK K cq fq
          have H := H.setA (.slice (some ⟨ga, 0, none⟩) (ka.length + 1) cpa)
          refine wpAnyIn_ready (rs := [10]) (by kernel_rfl) (by simp) (AllReadyIn.cons rfl (fun K hK => ?_) AllReadyIn.nil)
          have cq := box_cell H.bb 0
          have fq := box_fr H.bb
          go_simp
          refine hK _ _ ?_
          clear hK K cq fq
          have H := H.setB (.slice (some ⟨gb, 0, none⟩) (kb.length + 1) cpb)
          refine wpAnyIn_done (by kernel_rfl) ?_ _
          exact ⟨rfl, _, _, _, _, _, _, _, rfl, _, H⟩
        · have cq := box_cell H.bb 0
          go_simp
          refine hK _ _ ?_
          clear hK K cq
          refine wpAnyIn_ready (rs := [3, 5]) (by kernel_rfl) (by simp) (AllReadyIn.cons rfl (fun K hK => ?_) (AllReadyIn.cons rfl (fun K hK => ?_) AllReadyIn.nil))
          · refine step_liesIn (by rfl) _ _ 54 (by rfl) Tryz.underlying54 hi hz0 hz1 hz2 rfl (by decide) (by rfl) H.ra [str k] (by rfl) TA (by rfl) (by simp [Value.oneCell']) lena1 lena2 H.base ?_
            intro ga cpa W' hr hg hl
            refine hK _ _ ?_
            clear hK K
            have H := H.appA hr hg hl
            clear hr hg hl TA
            go_simp
            refine wpAnyIn_ready (rs := [5]) (by kernel_rfl) (by simp) (AllReadyIn.cons rfl (fun K hK => ?_) AllReadyIn.nil)
            have c0 := box_cell H.bx 0
            have c1 := box_cell H.bx 1
            have c2 := box_cell H.bx 2
            have c3 := box_cell H.bx 3
            have c4 := box_cell H.bx 4
            go_simp
            refine hK _ _ ?_
            clear hK K c0 c1 c2 c3 c4
            refine wpAnyIn_ready (rs := [6]) (by kernel_rfl) (by simp) (AllReadyIn.cons rfl (fun K hK => ?_) AllReadyIn.nil)
            go_simp
            refine (callsIn_wide.2 (plain_any x hsx.out _ _ _ H.rx)).mono ?_
            rintro e W2 ⟨us, rfl, hy, hb2⟩
            obtain ⟨ya, yl, yc, yb, ym, yd, rfl, _, _⟩ := id hy.open
            refine hK _ _ ?_
            clear hK K
            have SA := fun g hg => (H.ra.lt g hg).2
            have SB := fun g hg => (H.rb.lt g hg).2
            have S9 := H.base
            have H := H.up hb2
            clear hb2
            go_simp
            refine wpAnyIn_ready (rs := [7]) (by kernel_rfl) (by simp) (AllReadyIn.cons rfl (fun K hK => ?_) AllReadyIn.nil)
            go_simp
            refine hK _ _ ?_
            clear hK K
            obtain ⟨H, TB⟩ := H.temp [.int .i64 x.kind, .int .i64 x.n, str x.s, .slice ya yl yc, .slice yb ym yd] 35
            have hy := temp_rd hy (.cells ([.int .i64 x.kind, .int .i64 x.n, str x.s, .slice ya yl yc, .slice yb ym yd] : List Value).toArray 35)
            refine wpAnyIn_ready (rs := [8]) (by kernel_rfl) (by simp) (AllReadyIn.cons rfl (fun K hK => ?_) AllReadyIn.nil)
            refine step_liesIn (by rfl) _ _ 32 (by rfl) Tryz.underlying32 gi gz0 gz1 gz2 rfl (by decide) (by rfl) H.rb [.int .i64 x.kind, .int .i64 x.n, str x.s, .slice ya yl yc, .slice yb ym yd] (by rfl) TB (by rfl) (by simp [Value.oneCell']) lenb1 lenb2 H.base ?_
            intro gb cpb W' hr hg hl
            refine hK _ _ ?_
            clear hK K
            have H := H.appB hr hg hl hy S9 SA SB
            clear hr hg hl TB
            go_simp
            refine wpAnyIn_ready (rs := [9]) (by kernel_rfl) (by simp) (AllReadyIn.cons rfl (fun K hK => ?_) AllReadyIn.nil)
            have cq := box_cell H.ba 0
            have fq := box_fr H.ba
            go_simp
            refine hK _ _ ?_
            clear hK K cq fq
            have H := H.setA (.slice (some ⟨ga, 0, none⟩) (ka.length + 1) cpa)
            refine wpAnyIn_ready (rs := [10]) (by kernel_rfl) (by simp) (AllReadyIn.cons rfl (fun K hK => ?_) AllReadyIn.nil)
            have cq := box_cell H.bb 0
            have fq := box_fr H.bb
            go_simp
            refine hK _ _ ?_
            clear hK K cq fq
            have H := H.setB (.slice (some ⟨gb, 0, none⟩) (kb.length + 1) cpb)
            refine wpAnyIn_done (by kernel_rfl) ?_ _
            exact ⟨rfl, _, _, _, _, _, _, _, rfl, _, H⟩
          have c0 := box_cell H.bx 0
          have c1 := box_cell H.bx 1
          have c2 := box_cell H.bx 2
          have c3 := box_cell H.bx 3
          have c4 := box_cell H.bx 4
          go_simp
          refine hK _ _ ?_
          clear hK K c0 c1 c2 c3 c4
          refine wpAnyIn_ready (rs := [3]) (by kernel_rfl) (by simp) (AllReadyIn.cons rfl (fun K hK => ?_) AllReadyIn.nil)
          refine step_liesIn (by rfl) _ _ 54 (by rfl) Tryz.underlying54 hi hz0 hz1 hz2 rfl (by decide) (by rfl) H.ra [str k] (by rfl) TA (by rfl) (by simp [Value.oneCell']) lena1 lena2 H.base ?_
          intro ga cpa W' hr hg hl
          refine hK _ _ ?_
          clear hK K
          have H := H.appA hr hg hl
          clear hr hg hl TA
          go_simp
          refine wpAnyIn_ready (rs := [6]) (by kernel_rfl) (by simp) (AllReadyIn.cons rfl (fun K hK => ?_) AllReadyIn.nil)
          go_simp
          refine (callsIn_wide.2 (plain_any x hsx.out _ _ _ H.rx)).mono ?_
          rintro e W2 ⟨us, rfl, hy, hb2⟩
          obtain ⟨ya, yl, yc, yb, ym, yd, rfl, _, _⟩ := id hy.open
          refine hK _ _ ?_
          clear hK K
          have SA := fun g hg => (H.ra.lt g hg).2
          have SB := fun g hg => (H.rb.lt g hg).2
          have S9 := H.base
          have H := H.up hb2
          clear hb2
          go_simp
          refine wpAnyIn_ready (rs := [7]) (by kernel_rfl) (by simp) (AllReadyIn.cons rfl (fun K hK => ?_) AllReadyIn.nil)
          go_simp
          refine hK _ _ ?_
          clear hK K
          obtain ⟨H, TB⟩ := H.temp [.int .i64 x.kind, .int .i64 x.n, str x.s, .slice ya yl yc, .slice yb ym yd] 35
          have hy := temp_rd hy (.cells ([.int .i64 x.kind, .int .i64 x.n, str x.s, .slice ya yl yc, .slice yb ym yd] : List Value).toArray 35)
          refine wpAnyIn_ready (rs := [8]) (by kernel_rfl) (by simp) (AllReadyIn.cons rfl (fun K hK => ?_) AllReadyIn.nil)
          refine step_liesIn (by rfl) _ _ 32 (by rfl) Tryz.underlying32 gi gz0 gz1 gz2 rfl (by decide) (by rfl) H.rb [.int .i64 x.kind, .int .i64 x.n, str x.s, .slice ya yl yc, .slice yb ym yd] (by rfl) TB (by rfl) (by simp [Value.oneCell']) lenb1 lenb2 H.base ?_
          intro gb cpb W' hr hg hl
          refine hK _ _ ?_
          clear hK K
          have H := H.appB hr hg hl hy S9 SA SB
          clear hr hg hl TB
          go_simp
          refine wpAnyIn_ready (rs := [9]) (by kernel_rfl) (by simp) (AllReadyIn.cons rfl (fun K hK => ?_) AllReadyIn.nil)
          have cq := box_cell H.ba 0
          have fq := box_fr H.ba
          go_simp
          refine hK _ _ ?_
          clear hK K cq fq
          have H := H.setA (.slice (some ⟨ga, 0, none⟩) (ka.length + 1) cpa)
          refine wpAnyIn_ready (rs := [10]) (by kernel_rfl) (by simp) (AllReadyIn.cons rfl (fun K hK => ?_) AllReadyIn.nil)
          have cq := box_cell H.bb 0
          have fq := box_fr H.bb
          go_simp
          refine hK _ _ ?_
          clear hK K cq fq
          have H := H.setB (.slice (some ⟨gb, 0, none⟩) (kb.length + 1) cpb)
          refine wpAnyIn_done (by kernel_rfl) ?_ _
          exact ⟨rfl, _, _, _, _, _, _, _, rfl, _, H⟩
        have c0 := box_cell H.bx 0
        have c1 := box_cell H.bx 1
        have c2 := box_cell H.bx 2
        have c3 := box_cell H.bx 3
        have c4 := box_cell H.bx 4
        go_simp
        refine hK _ _ ?_
        clear hK K c0 c1 c2 c3 c4
        refine wpAnyIn_ready (rs := [3, 4]) (by kernel_rfl) (by simp) (AllReadyIn.cons rfl (fun K hK => ?_) (AllReadyIn.cons rfl (fun K hK => ?_) AllReadyIn.nil))
        · refine step_liesIn (by rfl) _ _ 54 (by rfl) Tryz.underlying54 hi hz0 hz1 hz2 rfl (by decide) (by rfl) H.ra [str k] (by rfl) TA (by rfl) (by simp [Value.oneCell']) lena1 lena2 H.base ?_
          intro ga cpa W' hr hg hl
          refine hK _ _ ?_
          clear hK K
          have H := H.appA hr hg hl
          clear hr hg hl TA
          go_simp
          refine wpAnyIn_ready (rs := [4, 6]) (by kernel_rfl) (by simp) (AllReadyIn.cons rfl (fun K hK => ?_) (AllReadyIn.cons rfl (fun K hK => ?_) AllReadyIn.nil))
          · have cq := box_cell H.bb 0
            go_simp
            refine hK _ _ ?_
            clear hK K cq
            refine wpAnyIn_ready (rs := [6]) (by kernel_rfl) (by simp) (AllReadyIn.cons rfl (fun K hK => ?_) AllReadyIn.nil)
            go_simp
            refine (callsIn_wide.2 (plain_any x hsx.out _ _ _ H.rx)).mono ?_
            rintro e W2 ⟨us, rfl, hy, hb2⟩
            obtain ⟨ya, yl, yc, yb, ym, yd, rfl, _, _⟩ := id hy.open
            refine hK _ _ ?_
            clear hK K
            have SA := fun g hg => (H.ra.lt g hg).2
            have SB := fun g hg => (H.rb.lt g hg).2
            have S9 := H.base
            have H := H.up hb2
            clear hb2
            go_simp
            refine wpAnyIn_ready (rs := [7]) (by kernel_rfl) (by simp) (AllReadyIn.cons rfl (fun K hK => ?_) AllReadyIn.nil)
            go_simp
            refine hK _ _ ?_
            clear hK K
            obtain ⟨H, TB⟩ := H.temp [.int .i64 x.kind, .int .i64 x.n, str x.s, .slice ya yl yc, .slice yb ym yd] 35
            have hy := temp_rd hy (.cells ([.int .i64 x.kind, .int .i64 x.n, str x.s, .slice ya yl yc, .slice yb ym yd] : List Value).toArray 35)
            refine wpAnyIn_ready (rs := [8]) (by kernel_rfl) (by simp) (AllReadyIn.cons rfl (fun K hK => ?_) AllReadyIn.nil)
            refine step_liesIn (by rfl) _ _ 32 (by rfl) Tryz.underlying32 gi gz0 gz1 gz2 rfl (by decide) (by rfl) H.rb [.int .i64 x.kind, .int .i64 x.n, str x.s, .slice ya yl yc, .slice yb ym yd] (by rfl) TB (by rfl) (by simp [Value.oneCell']) lenb1 lenb2 H.base ?_
            intro gb cpb W' hr hg hl
            refine hK _ _ ?_
            clear hK K
            have H := H.appB hr hg hl hy S9 SA SB
            clear hr hg hl TB
            go_simp
            refine wpAnyIn_ready (rs := [9]) (by kernel_rfl) (by simp) (AllReadyIn.cons rfl (fun K hK => ?_) AllReadyIn.nil)
            have cq := box_cell H.ba 0
            have fq := box_fr H.ba
            go_simp
            refine hK _ _ ?_
            clear hK K cq fq
            have H := H.setA (.slice (some ⟨ga, 0, none⟩) (ka.length + 1) cpa)
            refine wpAnyIn_ready (rs := [10]) (by kernel_rfl) (by simp) (AllReadyIn.cons rfl (fun K hK => ?_) AllReadyIn.nil)
            have cq := box_cell H.bb 0
            have fq := box_fr H.bb
            go_simp
            refine hK _ _ ?_
            clear hK K cq fq
            have H := H.setB (.slice (some ⟨gb, 0, none⟩) (kb.length + 1) cpb)
            refine wpAnyIn_done (by kernel_rfl) ?_ _
            exact ⟨rfl, _, _, _, _, _, _, _, rfl, _, H⟩
          go_simp
          refine (callsIn_wide.2 (plain_any x hsx.out _ _ _ H.rx)).mono ?_
          rintro e W2 ⟨us, rfl, hy, hb2⟩
          obtain ⟨ya, yl, yc, yb, ym, yd, rfl, _, _⟩ := id hy.open
          refine hK _ _ ?_
          clear hK K
          have SA := fun g hg => (H.ra.lt g hg).2
          have SB := fun g hg => (H.rb.lt g hg).2
          have S9 := H.base
          have H := H.up hb2
          clear hb2
          go_simp
          refine wpAnyIn_ready (rs := [4, 7]) (by kernel_rfl) (by simp) (AllReadyIn.cons rfl (fun K hK => ?_) (AllReadyIn.cons rfl (fun K hK => ?_) AllReadyIn.nil))
          · have cq := box_cell H.bb 0
            go_simp
            refine hK _ _ ?_
            clear hK K cq
            refine wpAnyIn_ready (rs := [7]) (by kernel_rfl) (by simp) (AllReadyIn.cons rfl (fun K hK => ?_) AllReadyIn.nil)
            go_simp
            refine hK _ _ ?_
            clear hK K
            obtain ⟨H, TB⟩ := H.temp [.int .i64 x.kind, .int .i64 x.n, str x.s, .slice ya yl yc, .slice yb ym yd] 35
            have hy := temp_rd hy (.cells ([.int .i64 x.kind, .int .i64 x.n, str x.s, .slice ya yl yc, .slice yb ym yd] : List Value).toArray 35)
            refine wpAnyIn_ready (rs := [8]) (by kernel_rfl) (by simp) (AllReadyIn.cons rfl (fun K hK => ?_) AllReadyIn.nil)
            refine step_liesIn (by rfl) _ _ 32 (by rfl) Tryz.underlying32 gi gz0 gz1 gz2 rfl (by decide) (by rfl) H.rb [.int .i64 x.kind, .int .i64 x.n, str x.s, .slice ya yl yc, .slice yb ym yd] (by rfl) TB (by rfl) (by simp [Value.oneCell']) lenb1 lenb2 H.base ?_
            intro gb cpb W' hr hg hl
            refine hK _ _ ?_
            clear hK K
            have H := H.appB hr hg hl hy S9 SA SB
            clear hr hg hl TB
            go_simp
            refine wpAnyIn_ready (rs := [9]) (by kernel_rfl) (by simp) (AllReadyIn.cons rfl (fun K hK => ?_) AllReadyIn.nil)
            have cq := box_cell H.ba 0
            have fq := box_fr H.ba
            go_simp
            refine hK _ _ ?_
            clear hK K cq fq
            have H := H.setA (.slice (some ⟨ga, 0, none⟩) (ka.length + 1) cpa)
            refine wpAnyIn_ready (rs := [10]) (by kernel_rfl) (by simp) (AllReadyIn.cons rfl (fun K hK => ?_) AllReadyIn.nil)
            have cq := box_cell H.bb 0
            have fq := box_fr H.bb
            go_simp
            refine hK _ _ ?_
            clear hK K cq fq
            have H := H.setB (.slice (some ⟨gb, 0, none⟩) (kb.length + 1) cpb)
            refine wpAnyIn_done (by kernel_rfl) ?_ _
            exact ⟨rfl, _, _, _, _, _, _, _, rfl, _, H⟩
          go_simp
          refine hK _ _ ?_
          clear hK K
          obtain ⟨H, TB⟩ := H.temp [.int .i64 x.kind, .int .i64 x.n, str x.s, .slice ya yl yc, .slice yb ym yd] 35
          have hy := temp_rd hy (.cells ([.int .i64 x.kind, .int .i64 x.n, str x.s, .slice ya yl yc, .slice yb ym yd] : List Value).toArray 35)
          refine wpAnyIn_ready (rs := [4]) (by kernel_rfl) (by simp) (AllReadyIn.cons rfl (fun K hK => ?_) AllReadyIn.nil)
          have cq := box_cell H.bb 0
          go_simp
          refine hK _ _ ?_
          clear hK K cq
          refine wpAnyIn_ready (rs := [8]) (by kernel_rfl) (by simp) (AllReadyIn.cons rfl (fun K hK => ?_) AllReadyIn.nil)
          refine step_liesIn (by rfl) _ _ 32 (by rfl) Tryz.underlying32 gi gz0 gz1 gz2 rfl (by decide) (by rfl) H.rb [.int .i64 x.kind, .int .i64 x.n, str x.s, .slice ya yl yc, .slice yb ym yd] (by rfl) TB (by rfl) (by simp [Value.oneCell']) lenb1 lenb2 H.base ?_
          intro gb cpb W' hr hg hl
          refine hK _ _ ?_
          clear hK K
          have H := H.appB hr hg hl hy S9 SA SB
          clear hr hg hl TB
          go_simp
          refine wpAnyIn_ready (rs := [9]) (by kernel_rfl) (by simp) (AllReadyIn.cons rfl (fun K hK => ?_) AllReadyIn.nil)
          have cq := box_cell H.ba 0
          have fq := box_fr H.ba
          go_simp
          refine hK _ _ ?_
          clear hK K cq fq
          have H := H.setA (.slice (some ⟨ga, 0, none⟩) (ka.length + 1) cpa)
          refine wpAnyIn_ready (rs := [10]) (by kernel_rfl) (by simp) (AllReadyIn.cons rfl (fun K hK => ?_) AllReadyIn.nil)
          have cq := box_cell H.bb 0
          have fq := box_fr H.bb
          go_simp
          refine hK _ _ ?_
          clear hK K cq fq
          have H := H.setB (.slice (some ⟨gb, 0, none⟩) (kb.length + 1) cpb)
          refine wpAnyIn_done (by kernel_rfl) ?_ _
          exact ⟨rfl, _, _, _, _, _, _, _, rfl, _, H⟩
        have cq := box_cell H.bb 0
        go_simp
        refine hK _ _ ?_
        clear hK K cq
        refine wpAnyIn_ready (rs := [3]) (by kernel_rfl) (by simp) (AllReadyIn.cons rfl (fun K hK => ?_) AllReadyIn.nil)
        refine step_liesIn (by rfl) _ _ 54 (by rfl) Tryz.underlying54 hi hz0 hz1 hz2 rfl (by decide) (by rfl) H.ra [str k] (by rfl) TA (by rfl) (by simp [Value.oneCell']) lena1 lena2 H.base ?_
        intro ga cpa W' hr hg hl
        refine hK _ _ ?_
        clear hK K
        have H := H.appA hr hg hl
        clear hr hg hl TA
        go_simp
        refine wpAnyIn_ready (rs := [6]) (by kernel_rfl) (by simp) (AllReadyIn.cons rfl (fun K hK => ?_) AllReadyIn.nil)
        go_simp
        refine (callsIn_wide.2 (plain_any x hsx.out _ _ _ H.rx)).mono ?_
        rintro e W2 ⟨us, rfl, hy, hb2⟩
        obtain ⟨ya, yl, yc, yb, ym, yd, rfl, _, _⟩ := id hy.open
        refine hK _ _ ?_
        clear hK K
        have SA := fun g hg => (H.ra.lt g hg).2
        have SB := fun g hg => (H.rb.lt g hg).2
        have S9 := H.base
        have H := H.up hb2
        clear hb2
        go_simp
        refine wpAnyIn_ready (rs := [7]) (by kernel_rfl) (by simp) (AllReadyIn.cons rfl (fun K hK => ?_) AllReadyIn.nil)
        go_simp
        refine hK _ _ ?_
        clear hK K
        obtain ⟨H, TB⟩ := H.temp [.int .i64 x.kind, .int .i64 x.n, str x.s, .slice ya yl yc, .slice yb ym yd] 35
        have hy := temp_rd hy (.cells ([.int .i64 x.kind, .int .i64 x.n, str x.s, .slice ya yl yc, .slice yb ym yd] : List Value).toArray 35)
        refine wpAnyIn_ready (rs := [8]) (by kernel_rfl) (by simp) (AllReadyIn.cons rfl (fun K hK => ?_) AllReadyIn.nil)
        refine step_liesIn (by rfl) _ _ 32 (by rfl) Tryz.underlying32 gi gz0 gz1 gz2 rfl (by decide) (by rfl) H.rb [.int .i64 x.kind, .int .i64 x.n, str x.s, .slice ya yl yc, .slice yb ym yd] (by rfl) TB (by rfl) (by simp [Value.oneCell']) lenb1 lenb2 H.base ?_
        intro gb cpb W' hr hg hl
        refine hK _ _ ?_
        clear hK K
        have H := H.appB hr hg hl hy S9 SA SB
        clear hr hg hl TB
        go_simp
        refine wpAnyIn_ready (rs := [9]) (by kernel_rfl) (by simp) (AllReadyIn.cons rfl (fun K hK => ?_) AllReadyIn.nil)
        have cq := box_cell H.ba 0
        have fq := box_fr H.ba
        go_simp
        refine hK _ _ ?_
        clear hK K cq fq
        have H := H.setA (.slice (some ⟨ga, 0, none⟩) (ka.length + 1) cpa)
        refine wpAnyIn_ready (rs := [10]) (by kernel_rfl) (by simp) (AllReadyIn.cons rfl (fun K hK => ?_) AllReadyIn.nil)
        have cq := box_cell H.bb 0
        have fq := box_fr H.bb
        go_simp
        refine hK _ _ ?_
        clear hK K cq fq
        have H := H.setB (.slice (some ⟨gb, 0, none⟩) (kb.length + 1) cpb)
        refine wpAnyIn_done (by kernel_rfl) ?_ _
        exact ⟨rfl, _, _, _, _, _, _, _, rfl, _, H⟩
      · have cq := box_cell H.bb 0
        go_simp
        refine hK _ _ ?_
        clear hK K cq
        refine wpAnyIn_ready (rs := [2, 5]) (by kernel_rfl) (by simp) (AllReadyIn.cons rfl (fun K hK => ?_) (AllReadyIn.cons rfl (fun K hK => ?_) AllReadyIn.nil))
        · go_simp
          refine hK _ _ ?_
          clear hK K
          obtain ⟨H, TA⟩ := H.temp [str k] 9
          refine wpAnyIn_ready (rs := [3, 5]) (by kernel_rfl) (by simp) (AllReadyIn.cons rfl (fun K hK => ?_) (AllReadyIn.cons rfl (fun K hK => ?_) AllReadyIn.nil))
          · refine step_liesIn (by rfl) _ _ 54 (by rfl) Tryz.underlying54 hi hz0 hz1 hz2 rfl (by decide) (by rfl) H.ra [str k] (by rfl) TA (by rfl) (by simp [Value.oneCell']) lena1 lena2 H.base ?_
            intro ga cpa W' hr hg hl
            refine hK _ _ ?_
            clear hK K
            have H := H.appA hr hg hl
            clear hr hg hl TA
            go_simp
            refine wpAnyIn_ready (rs := [5]) (by kernel_rfl) (by simp) (AllReadyIn.cons rfl (fun K hK => ?_) AllReadyIn.nil)
            have c0 := box_cell H.bx 0
            have c1 := box_cell H.bx 1
            have c2 := box_cell H.bx 2
            have c3 := box_cell H.bx 3
            have c4 := box_cell H.bx 4
            go_simp
            refine hK _ _ ?_
            clear hK K c0 c1 c2 c3 c4
            refine wpAnyIn_ready (rs := [6]) (by kernel_rfl) (by simp) (AllReadyIn.cons rfl (fun K hK => ?_) AllReadyIn.nil)
            go_simp
            refine (callsIn_wide.2 (plain_any x hsx.out _ _ _ H.rx)).mono ?_
            rintro e W2 ⟨us, rfl, hy, hb2⟩
            obtain ⟨ya, yl, yc, yb, ym, yd, rfl, _, _⟩ := id hy.open
            refine hK _ _ ?_
            clear hK K
            have SA := fun g hg => (H.ra.lt g hg).2
            have SB := fun g hg => (H.rb.lt g hg).2
            have S9 := H.base
            have H := H.up hb2
            clear hb2
            go_simp
            refine wpAnyIn_ready (rs := [7]) (by kernel_rfl) (by simp) (AllReadyIn.cons rfl (fun K hK => ?_) AllReadyIn.nil)
            go_simp
            refine hK _ _ ?_
            clear hK K
            obtain ⟨H, TB⟩ := H.temp [.int .i64 x.kind, .int .i64 x.n, str x.s, .slice ya yl yc, .slice yb ym yd] 35
            have hy := temp_rd hy (.cells ([.int .i64 x.kind, .int .i64 x.n, str x.s, .slice ya yl yc, .slice yb ym yd] : List Value).toArray 35)
            refine wpAnyIn_ready (rs := [8]) (by kernel_rfl) (by simp) (AllReadyIn.cons rfl (fun K hK => ?_) AllReadyIn.nil)
            refine step_liesIn (by rfl) _ _ 32 (by rfl) Tryz.underlying32 gi gz0 gz1 gz2 rfl (by decide) (by rfl) H.rb [.int .i64 x.kind, .int .i64 x.n, str x.s, .slice ya yl yc, .slice yb ym yd] (by rfl) TB (by rfl) (by simp [Value.oneCell']) lenb1 lenb2 H.base ?_
            intro gb cpb W' hr hg hl
            refine hK _ _ ?_
            clear hK K
            have H := H.appB hr hg hl hy S9 SA SB
            clear hr hg hl TB
            go_simp
            refine wpAnyIn_ready (rs := [9]) (by kernel_rfl) (by simp) (AllReadyIn.cons rfl (fun K hK => ?_) AllReadyIn.nil)
            have cq := box_cell H.ba 0
            have fq := box_fr H.ba
            go_simp
            refine hK _ _ ?_
            clear hK K cq fq
            have H := H.setA (.slice (some ⟨ga, 0, none⟩) (ka.length + 1) cpa)
            refine wpAnyIn_ready (rs := [10]) (by kernel_rfl) (by simp) (AllReadyIn.cons rfl (fun K hK => ?_) AllReadyIn.nil)
            have cq := box_cell H.bb 0
            have fq := box_fr H.bb
            go_simp
            refine hK _ _ ?_
            clear hK K cq fq
            have H := H.setB (.slice (some ⟨gb, 0, none⟩) (kb.length + 1) cpb)
            refine wpAnyIn_done (by kernel_rfl) ?_ _
            exact ⟨rfl, _, _, _, _, _, _, _, rfl, _, H⟩
          have c0 := box_cell H.bx 0
          have c1 := box_cell H.bx 1
          have c2 := box_cell H.bx 2
          have c3 := box_cell H.bx 3
          have c4 := box_cell H.bx 4
          go_simp
          refine hK _ _ ?_
          clear hK K c0 c1 c2 c3 c4
          refine wpAnyIn_ready (rs := [3]) (by kernel_rfl) (by simp) (AllReadyIn.cons rfl (fun K hK => ?_) AllReadyIn.nil)
          refine step_liesIn (by rfl) _ _ 54 (by rfl) Tryz.underlying54 hi hz0 hz1 hz2 rfl (by decide) (by rfl) H.ra [str k] (by rfl) TA (by rfl) (by simp [Value.oneCell']) lena1 lena2 H.base ?_
          intro ga cpa W' hr hg hl
          refine hK _ _ ?_
          clear hK K
          have H := H.appA hr hg hl
          clear hr hg hl TA
          go_simp
          refine wpAnyIn_ready (rs := [6]) (by kernel_rfl) (by simp) (AllReadyIn.cons rfl (fun K hK => ?_) AllReadyIn.nil)
          go_simp
          refine (callsIn_wide.2 (plain_any x hsx.out _ _ _ H.rx)).mono ?_
          rintro e W2 ⟨us, rfl, hy, hb2⟩
          obtain ⟨ya, yl, yc, yb, ym, yd, rfl, _, _⟩ := id hy.open
          refine hK _ _ ?_
          clear hK K
          have SA := fun g hg => (H.ra.lt g hg).2
          have SB := fun g hg => (H.rb.lt g hg).2
          have S9 := H.base
          have H := H.up hb2
          clear hb2
          go_simp
          refine wpAnyIn_ready (rs := [7]) (by kernel_rfl) (by simp) (AllReadyIn.cons rfl (fun K hK => ?_) AllReadyIn.nil)
          go_simp
          refine hK _ _ ?_
          clear hK K
          obtain ⟨H, TB⟩ := H.temp [.int .i64 x.kind, .int .i64 x.n, str x.s, .slice ya yl yc, .slice yb ym yd] 35
          have hy := temp_rd hy (.cells ([.int .i64 x.kind, .int .i64 x.n, str x.s, .slice ya yl yc, .slice yb ym yd] : List Value).toArray 35)
          refine wpAnyIn_ready (rs := [8]) (by kernel_rfl) (by simp) (AllReadyIn.cons rfl (fun K hK => ?_) AllReadyIn.nil)
          refine step_liesIn (by rfl) _ _ 32 (by rfl) Tryz.underlying32 gi gz0 gz1 gz2 rfl (by decide) (by rfl) H.rb [.int .i64 x.kind, .int .i64 x.n, str x.s, .slice ya yl yc, .slice yb ym yd] (by rfl) TB (by rfl) (by simp [Value.oneCell']) lenb1 lenb2 H.base ?_
          intro gb cpb W' hr hg hl
          refine hK _ _ ?_
          clear hK K
          have H := H.appB hr hg hl hy S9 SA SB
          clear hr hg hl TB
          go_simp
          refine wpAnyIn_ready (rs := [9]) (by kernel_rfl) (by simp) (AllReadyIn.cons rfl (fun K hK => ?_) AllReadyIn.nil)
          have cq := box_cell H.ba 0
          have fq := box_fr H.ba
          go_simp
          refine hK _ _ ?_
          clear hK K cq fq
          have H := H.setA (.slice (some ⟨ga, 0, none⟩) (ka.length + 1) cpa)
          refine wpAnyIn_ready (rs := [10]) (by kernel_rfl) (by simp) (AllReadyIn.cons rfl (fun K hK => ?_) AllReadyIn.nil)
          have cq := box_cell H.bb 0
          have fq := box_fr H.bb
          go_simp
          refine hK _ _ ?_
          clear hK K cq fq
          have H := H.setB (.slice (some ⟨gb, 0, none⟩) (kb.length + 1) cpb)
          refine wpAnyIn_done (by kernel_rfl) ?_ _
          exact ⟨rfl, _, _, _, _, _, _, _, rfl, _, H⟩
        have c0 := box_cell H.bx 0
        have c1 := box_cell H.bx 1
        have c2 := box_cell H.bx 2
        have c3 := box_cell H.bx 3
        have c4 := box_cell H.bx 4
        go_simp
        refine hK _ _ ?_
        clear hK K c0 c1 c2 c3 c4
        refine wpAnyIn_ready (rs := [2]) (by kernel_rfl) (by simp) (AllReadyIn.cons rfl (fun K hK => ?_) AllReadyIn.nil)
        go_simp
        refine hK _ _ ?_
        clear hK K
        obtain ⟨H, TA⟩ := H.temp [str k] 9
        refine wpAnyIn_ready (rs := [3]) (by kernel_rfl) (by simp) (AllReadyIn.cons rfl (fun K hK => ?_) AllReadyIn.nil)
        refine step_liesIn (by rfl) _ _ 54 (by rfl) Tryz.underlying54 hi hz0 hz1 hz2 rfl (by decide) (by rfl) H.ra [str k] (by rfl) TA (by rfl) (by simp [Value.oneCell']) lena1 lena2 H.base ?_
        intro ga cpa W' hr hg hl
        refine hK _ _ ?_
        clear hK K
        have H := H.appA hr hg hl
        clear hr hg hl TA
        go_simp
        refine wpAnyIn_ready (rs := [6]) (by kernel_rfl) (by simp) (AllReadyIn.cons rfl (fun K hK => ?_) AllReadyIn.nil)
        go_simp
        refine (callsIn_wide.2 (plain_any x hsx.out _ _ _ H.rx)).mono ?_
        rintro e W2 ⟨us, rfl, hy, hb2⟩
        obtain ⟨ya, yl, yc, yb, ym, yd, rfl, _, _⟩ := id hy.open
        refine hK _ _ ?_
        clear hK K
        have SA := fun g hg => (H.ra.lt g hg).2
        have SB := fun g hg => (H.rb.lt g hg).2
        have S9 := H.base
        have H := H.up hb2
        clear hb2
        go_simp
        refine wpAnyIn_ready (rs := [7]) (by kernel_rfl) (by simp) (AllReadyIn.cons rfl (fun K hK => ?_) AllReadyIn.nil)
        go_simp
        refine hK _ _ ?_
        clear hK K
        obtain ⟨H, TB⟩ := H.temp [.int .i64 x.kind, .int .i64 x.n, str x.s, .slice ya yl yc, .slice yb ym yd] 35
        have hy := temp_rd hy (.cells ([.int .i64 x.kind, .int .i64 x.n, str x.s, .slice ya yl yc, .slice yb ym yd] : List Value).toArray 35)
        refine wpAnyIn_ready (rs := [8]) (by kernel_rfl) (by simp) (AllReadyIn.cons rfl (fun K hK => ?_) AllReadyIn.nil)
        refine step_liesIn (by rfl) _ _ 32 (by rfl) Tryz.underlying32 gi gz0 gz1 gz2 rfl (by decide) (by rfl) H.rb [.int .i64 x.kind, .int .i64 x.n, str x.s, .slice ya yl yc, .slice yb ym yd] (by rfl) TB (by rfl) (by simp [Value.oneCell']) lenb1 lenb2 H.base ?_
        intro gb cpb W' hr hg hl
        refine hK _ _ ?_
        clear hK K
        have H := H.appB hr hg hl hy S9 SA SB
        clear hr hg hl TB
        go_simp
        refine wpAnyIn_ready (rs := [9]) (by kernel_rfl) (by simp) (AllReadyIn.cons rfl (fun K hK => ?_) AllReadyIn.nil)
        have cq := box_cell H.ba 0
        have fq := box_fr H.ba
        go_simp
        refine hK _ _ ?_
        clear hK K cq fq
        have H := H.setA (.slice (some ⟨ga, 0, none⟩) (ka.length + 1) cpa)
        refine wpAnyIn_ready (rs := [10]) (by kernel_rfl) (by simp) (AllReadyIn.cons rfl (fun K hK => ?_) AllReadyIn.nil)
        have cq := box_cell H.bb 0
        have fq := box_fr H.bb
        go_simp
        refine hK _ _ ?_
        clear hK K cq fq
        have H := H.setB (.slice (some ⟨gb, 0, none⟩) (kb.length + 1) cpb)
        refine wpAnyIn_done (by kernel_rfl) ?_ _
        exact ⟨rfl, _, _, _, _, _, _, _, rfl, _, H⟩
      have c0 := box_cell H.bx 0
      have c1 := box_cell H.bx 1
      have c2 := box_cell H.bx 2
      have c3 := box_cell H.bx 3
      have c4 := box_cell H.bx 4
      go_simp
      refine hK _ _ ?_
      clear hK K c0 c1 c2 c3 c4
      refine wpAnyIn_ready (rs := [2, 4]) (by kernel_rfl) (by simp) (AllReadyIn.cons rfl (fun K hK => ?_) (AllReadyIn.cons rfl (fun K hK => ?_) AllReadyIn.nil))
      · go_simp
        refine hK _ _ ?_
        clear hK K
        obtain ⟨H, TA⟩ := H.temp [str k] 9
        refine wpAnyIn_ready (rs := [3, 4]) (by kernel_rfl) (by simp) (AllReadyIn.cons rfl (fun K hK => ?_) (AllReadyIn.cons rfl (fun K hK => ?_) AllReadyIn.nil))
        · refine step_liesIn (by rfl) _ _ 54 (by rfl) Tryz.underlying54 hi hz0 hz1 hz2 rfl (by decide) (by rfl) H.ra [str k] (by rfl) TA (by rfl) (by simp [Value.oneCell']) lena1 lena2 H.base ?_
          intro ga cpa W' hr hg hl
          refine hK _ _ ?_
          clear hK K
          have H := H.appA hr hg hl
          clear hr hg hl TA
          go_simp
          refine wpAnyIn_ready (rs := [4, 6]) (by kernel_rfl) (by simp) (AllReadyIn.cons rfl (fun K hK => ?_) (AllReadyIn.cons rfl (fun K hK => ?_) AllReadyIn.nil))
          · have cq := box_cell H.bb 0
            go_simp
            refine hK _ _ ?_
            clear hK K cq
            refine wpAnyIn_ready (rs := [6]) (by kernel_rfl) (by simp) (AllReadyIn.cons rfl (fun K hK => ?_) AllReadyIn.nil)
            go_simp
            refine (callsIn_wide.2 (plain_any x hsx.out _ _ _ H.rx)).mono ?_
            rintro e W2 ⟨us, rfl, hy, hb2⟩
            obtain ⟨ya, yl, yc, yb, ym, yd, rfl, _, _⟩ := id hy.open
            refine hK _ _ ?_
            clear hK K
            have SA := fun g hg => (H.ra.lt g hg).2
            have SB := fun g hg => (H.rb.lt g hg).2
            have S9 := H.base
            have H := H.up hb2
            clear hb2
            go_simp
            refine wpAnyIn_ready (rs := [7]) (by kernel_rfl) (by simp) (AllReadyIn.cons rfl (fun K hK => ?_) AllReadyIn.nil)
            go_simp
            refine hK _ _ ?_
            clear hK K
            obtain ⟨H, TB⟩ := H.temp [.int .i64 x.kind, .int .i64 x.n, str x.s, .slice ya yl yc, .slice yb ym yd] 35
            have hy := temp_rd hy (.cells ([.int .i64 x.kind, .int .i64 x.n, str x.s, .slice ya yl yc, .slice yb ym yd] : List Value).toArray 35)
            refine wpAnyIn_ready (rs := [8]) (by kernel_rfl) (by simp) (AllReadyIn.cons rfl (fun K hK => ?_) AllReadyIn.nil)
            refine step_liesIn (by rfl) _ _ 32 (by rfl) Tryz.underlying32 gi gz0 gz1 gz2 rfl (by decide) (by rfl) H.rb [.int .i64 x.kind, .int .i64 x.n, str x.s, .slice ya yl yc, .slice yb ym yd] (by rfl) TB (by rfl) (by simp [Value.oneCell']) lenb1 lenb2 H.base ?_
            intro gb cpb W' hr hg hl
            refine hK _ _ ?_
            clear hK K
            have H := H.appB hr hg hl hy S9 SA SB
            clear hr hg hl TB
            go_simp
            refine wpAnyIn_ready (rs := [9]) (by kernel_rfl) (by simp) (AllReadyIn.cons rfl (fun K hK => ?_) AllReadyIn.nil)
            have cq := box_cell H.ba 0
            have fq := box_fr H.ba
            go_simp
            refine hK _ _ ?_
            clear hK K cq fq
            have H := H.setA (.slice (some ⟨ga, 0, none⟩) (ka.length + 1) cpa)
            refine wpAnyIn_ready (rs := [10]) (by kernel_rfl) (by simp) (AllReadyIn.cons rfl (fun K hK => ?_) AllReadyIn.nil)
            have cq := box_cell H.bb 0
            have fq := box_fr H.bb
            go_simp
            refine hK _ _ ?_
            clear hK K cq fq
            have H := H.setB (.slice (some ⟨gb, 0, none⟩) (kb.length + 1) cpb)
            refine wpAnyIn_done (by kernel_rfl) ?_ _
            exact ⟨rfl, _, _, _, _, _, _, _, rfl, _, H⟩
          go_simp
          refine (callsIn_wide.2 (plain_any x hsx.out _ _ _ H.rx)).mono ?_
          rintro e W2 ⟨us, rfl, hy, hb2⟩
          obtain ⟨ya, yl, yc, yb, ym, yd, rfl, _, _⟩ := id hy.open
          refine hK _ _ ?_
          clear hK K
          have SA := fun g hg => (H.ra.lt g hg).2
          have SB := fun g hg => (H.rb.lt g hg).2
          have S9 := H.base
          have H := H.up hb2
          clear hb2
          go_simp
          refine wpAnyIn_ready (rs := [4, 7]) (by kernel_rfl) (by simp) (AllReadyIn.cons rfl (fun K hK => ?_) (AllReadyIn.cons rfl (fun K hK => ?_) AllReadyIn.nil))
          · have cq := box_cell H.bb 0
            go_simp
            refine hK _ _ ?_
            clear hK K cq
            refine wpAnyIn_ready (rs := [7]) (by kernel_rfl) (by simp) (AllReadyIn.cons rfl (fun K hK => ?_) AllReadyIn.nil)
            go_simp
            refine hK _ _ ?_
            clear hK K
            obtain ⟨H, TB⟩ := H.temp [.int .i64 x.kind, .int .i64 x.n, str x.s, .slice ya yl yc, .slice yb ym yd] 35
            have hy := temp_rd hy (.cells ([.int .i64 x.kind, .int .i64 x.n, str x.s, .slice ya yl yc, .slice yb ym yd] : List Value).toArray 35)
            refine wpAnyIn_ready (rs := [8]) (by kernel_rfl) (by simp) (AllReadyIn.cons rfl (fun K hK => ?_) AllReadyIn.nil)
            refine step_liesIn (by rfl) _ _ 32 (by rfl) Tryz.underlying32 gi gz0 gz1 gz2 rfl (by decide) (by rfl) H.rb [.int .i64 x.kind, .int .i64 x.n, str x.s, .slice ya yl yc, .slice yb ym yd] (by rfl) TB (by rfl) (by simp [Value.oneCell']) lenb1 lenb2 H.base ?_
            intro gb cpb W' hr hg hl
            refine hK _ _ ?_
            clear hK K
            have H := H.appB hr hg hl hy S9 SA SB
            clear hr hg hl TB
            go_simp
            refine wpAnyIn_ready (rs := [9]) (by kernel_rfl) (by simp) (AllReadyIn.cons rfl (fun K hK => ?_) AllReadyIn.nil)
            have cq := box_cell H.ba 0
            have fq := box_fr H.ba
            go_simp
            refine hK _ _ ?_
            clear hK K cq fq
            have H := H.setA (.slice (some ⟨ga, 0, none⟩) (ka.length + 1) cpa)
            refine wpAnyIn_ready (rs := [10]) (by kernel_rfl) (by simp) (AllReadyIn.cons rfl (fun K hK => ?_) AllReadyIn.nil)
            have cq := box_cell H.bb 0
            have fq := box_fr H.bb
            go_simp
            refine hK _ _ ?_
            clear hK K cq fq
            have H := H.setB (.slice (some ⟨gb, 0, none⟩) (kb.length + 1) cpb)
            refine wpAnyIn_done (by kernel_rfl) ?_ _
            exact ⟨rfl, _, _, _, _, _, _, _, rfl, _, H⟩
          go_simp
          refine hK _ _ ?_
          clear hK K
          obtain ⟨H, TB⟩ := H.temp [.int .i64 x.kind, .int .i64 x.n, str x.s, .slice ya yl yc, .slice yb ym yd] 35
          have hy := temp_rd hy (.cells ([.int .i64 x.kind, .int .i64 x.n, str x.s, .slice ya yl yc, .slice yb ym yd] : List Value).toArray 35)
          refine wpAnyIn_ready (rs := [4]) (by kernel_rfl) (by simp) (AllReadyIn.cons rfl (fun K hK => ?_) AllReadyIn.nil)
          have cq := box_cell H.bb 0
          go_simp
          refine hK _ _ ?_
          clear hK K cq
          refine wpAnyIn_ready (rs := [8]) (by kernel_rfl) (by simp) (AllReadyIn.cons rfl (fun K hK => ?_) AllReadyIn.nil)
          refine step_liesIn (by rfl) _ _ 32 (by rfl) Tryz.underlying32 gi gz0 gz1 gz2 rfl (by decide) (by rfl) H.rb [.int .i64 x.kind, .int .i64 x.n, str x.s, .slice ya yl yc, .slice yb ym yd] (by rfl) TB (by rfl) (by simp [Value.oneCell']) lenb1 lenb2 H.base ?_
          intro gb cpb W' hr hg hl
          refine hK _ _ ?_
          clear hK K
          have H := H.appB hr hg hl hy S9 SA SB
          clear hr hg hl TB
          go_simp
          refine wpAnyIn_ready (rs := [9]) (by kernel_rfl) (by simp) (AllReadyIn.cons rfl (fun K hK => ?_) AllReadyIn.nil)
          have cq := box_cell H.ba 0
          have fq := box_fr H.ba
          go_simp
          refine hK _ _ ?_
          clear hK K cq fq
          have H := H.setA (.slice (some ⟨ga, 0, none⟩) (ka.length + 1) cpa)
          refine wpAnyIn_ready (rs := [10]) (by kernel_rfl) (by simp) (AllReadyIn.cons rfl (fun K hK => ?_) AllReadyIn.nil)
          have cq := box_cell H.bb 0
          have fq := box_fr H.bb
          go_simp
          refine hK _ _ ?_
          clear hK K cq fq
          have H := H.setB (.slice (some ⟨gb, 0, none⟩) (kb.length + 1) cpb)
          refine wpAnyIn_done (by kernel_rfl) ?_ _
          exact ⟨rfl, _, _, _, _, _, _, _, rfl, _, H⟩
        have cq := box_cell H.bb 0
        go_simp
        refine hK _ _ ?_
        clear hK K cq
        refine wpAnyIn_ready (rs := [3]) (by kernel_rfl) (by simp) (AllReadyIn.cons rfl (fun K hK => ?_) AllReadyIn.nil)
        refine step_liesIn (by rfl) _ _ 54 (by rfl) Tryz.underlying54 hi hz0 hz1 hz2 rfl (by decide) (by rfl) H.ra [str k] (by rfl) TA (by rfl) (by simp [Value.oneCell']) lena1 lena2 H.base ?_
        intro ga cpa W' hr hg hl
        refine hK _ _ ?_
        clear hK K
        have H := H.appA hr hg hl
        clear hr hg hl TA
        go_simp
        refine wpAnyIn_ready (rs := [6]) (by kernel_rfl) (by simp) (AllReadyIn.cons rfl (fun K hK => ?_) AllReadyIn.nil)
        go_simp
        refine (callsIn_wide.2 (plain_any x hsx.out _ _ _ H.rx)).mono ?_
        rintro e W2 ⟨us, rfl, hy, hb2⟩
        obtain ⟨ya, yl, yc, yb, ym, yd, rfl, _, _⟩ := id hy.open
        refine hK _ _ ?_
        clear hK K
        have SA := fun g hg => (H.ra.lt g hg).2
        have SB := fun g hg => (H.rb.lt g hg).2
        have S9 := H.base
        have H := H.up hb2
        clear hb2
        go_simp
        refine wpAnyIn_ready (rs := [7]) (by kernel_rfl) (by simp) (AllReadyIn.cons rfl (fun K hK => ?_) AllReadyIn.nil)
        go_simp
        refine hK _ _ ?_
        clear hK K
        obtain ⟨H, TB⟩ := H.temp [.int .i64 x.kind, .int .i64 x.n, str x.s, .slice ya yl yc, .slice yb ym yd] 35
        have hy := temp_rd hy (.cells ([.int .i64 x.kind, .int .i64 x.n, str x.s, .slice ya yl yc, .slice yb ym yd] : List Value).toArray 35)
        refine wpAnyIn_ready (rs := [8]) (by kernel_rfl) (by simp) (AllReadyIn.cons rfl (fun K hK => ?_) AllReadyIn.nil)
        refine step_liesIn (by rfl) _ _ 32 (by rfl) Tryz.underlying32 gi gz0 gz1 gz2 rfl (by decide) (by rfl) H.rb [.int .i64 x.kind, .int .i64 x.n, str x.s, .slice ya yl yc, .slice yb ym yd] (by rfl) TB (by rfl) (by simp [Value.oneCell']) lenb1 lenb2 H.base ?_
        intro gb cpb W' hr hg hl
        refine hK _ _ ?_
        clear hK K
        have H := H.appB hr hg hl hy S9 SA SB
        clear hr hg hl TB
        go_simp
        refine wpAnyIn_ready (rs := [9]) (by kernel_rfl) (by simp) (AllReadyIn.cons rfl (fun K hK => ?_) AllReadyIn.nil)
        have cq := box_cell H.ba 0
        have fq := box_fr H.ba
        go_simp
        refine hK _ _ ?_
        clear hK K cq fq
        have H := H.setA (.slice (some ⟨ga, 0, none⟩) (ka.length + 1) cpa)
        refine wpAnyIn_ready (rs := [10]) (by kernel_rfl) (by simp) (AllReadyIn.cons rfl (fun K hK => ?_) AllReadyIn.nil)
        have cq := box_cell H.bb 0
        have fq := box_fr H.bb
        go_simp
        refine hK _ _ ?_
        clear hK K cq fq
        have H := H.setB (.slice (some ⟨gb, 0, none⟩) (kb.length + 1) cpb)
        refine wpAnyIn_done (by kernel_rfl) ?_ _
        exact ⟨rfl, _, _, _, _, _, _, _, rfl, _, H⟩
      have cq := box_cell H.bb 0
      go_simp
      refine hK _ _ ?_
      clear hK K cq
      refine wpAnyIn_ready (rs := [2]) (by kernel_rfl) (by simp) (AllReadyIn.cons rfl (fun K hK => ?_) AllReadyIn.nil)
      go_simp
      refine hK _ _ ?_
      clear hK K
      obtain ⟨H, TA⟩ := H.temp [str k] 9
      refine wpAnyIn_ready (rs := [3]) (by kernel_rfl) (by simp) (AllReadyIn.cons rfl (fun K hK => ?_) AllReadyIn.nil)
      refine step_liesIn (by rfl) _ _ 54 (by rfl) Tryz.underlying54 hi hz0 hz1 hz2 rfl (by decide) (by rfl) H.ra [str k] (by rfl) TA (by rfl) (by simp [Value.oneCell']) lena1 lena2 H.base ?_
      intro ga cpa W' hr hg hl
      refine hK _ _ ?_
      clear hK K
      have H := H.appA hr hg hl
      clear hr hg hl TA
      go_simp
      refine wpAnyIn_ready (rs := [6]) (by kernel_rfl) (by simp) (AllReadyIn.cons rfl (fun K hK => ?_) AllReadyIn.nil)
      go_simp
      refine (callsIn_wide.2 (plain_any x hsx.out _ _ _ H.rx)).mono ?_
      rintro e W2 ⟨us, rfl, hy, hb2⟩
      obtain ⟨ya, yl, yc, yb, ym, yd, rfl, _, _⟩ := id hy.open
      refine hK _ _ ?_
      clear hK K
      have SA := fun g hg => (H.ra.lt g hg).2
      have SB := fun g hg => (H.rb.lt g hg).2
      have S9 := H.base
      have H := H.up hb2
      clear hb2
      go_simp
      refine wpAnyIn_ready (rs := [7]) (by kernel_rfl) (by simp) (AllReadyIn.cons rfl (fun K hK => ?_) AllReadyIn.nil)
      go_simp
      refine hK _ _ ?_
      clear hK K
      obtain ⟨H, TB⟩ := H.temp [.int .i64 x.kind, .int .i64 x.n, str x.s, .slice ya yl yc, .slice yb ym yd] 35
      have hy := temp_rd hy (.cells ([.int .i64 x.kind, .int .i64 x.n, str x.s, .slice ya yl yc, .slice yb ym yd] : List Value).toArray 35)
      refine wpAnyIn_ready (rs := [8]) (by kernel_rfl) (by simp) (AllReadyIn.cons rfl (fun K hK => ?_) AllReadyIn.nil)
      refine step_liesIn (by rfl) _ _ 32 (by rfl) Tryz.underlying32 gi gz0 gz1 gz2 rfl (by decide) (by rfl) H.rb [.int .i64 x.kind, .int .i64 x.n, str x.s, .slice ya yl yc, .slice yb ym yd] (by rfl) TB (by rfl) (by simp [Value.oneCell']) lenb1 lenb2 H.base ?_
      intro gb cpb W' hr hg hl
      refine hK _ _ ?_
      clear hK K
      have H := H.appB hr hg hl hy S9 SA SB
      clear hr hg hl TB
      go_simp
      refine wpAnyIn_ready (rs := [9]) (by kernel_rfl) (by simp) (AllReadyIn.cons rfl (fun K hK => ?_) AllReadyIn.nil)
      have cq := box_cell H.ba 0
      have fq := box_fr H.ba
      go_simp
      refine hK _ _ ?_
      clear hK K cq fq
      have H := H.setA (.slice (some ⟨ga, 0, none⟩) (ka.length + 1) cpa)
      refine wpAnyIn_ready (rs := [10]) (by kernel_rfl) (by simp) (AllReadyIn.cons rfl (fun K hK => ?_) AllReadyIn.nil)
      have cq := box_cell H.bb 0
      have fq := box_fr H.bb
      go_simp
      refine hK _ _ ?_
      clear hK K cq fq
      have H := H.setB (.slice (some ⟨gb, 0, none⟩) (kb.length + 1) cpb)
      refine wpAnyIn_done (by kernel_rfl) ?_ _
      exact ⟨rfl, _, _, _, _, _, _, _, rfl, _, H⟩
    · go_simp
      refine hK _ _ ?_
      clear hK K
      obtain ⟨H, TA⟩ := H.temp [str k] 9
      refine wpAnyIn_ready (rs := [0, 4, 5]) (by kernel_rfl) (by simp) (AllReadyIn.cons rfl (fun K hK => ?_) (AllReadyIn.cons rfl (fun K hK => ?_) (AllReadyIn.cons rfl (fun K hK => ?_) AllReadyIn.nil)))
      · have cq := box_cell H.ba 0
        go_simp
        refine hK _ _ ?_
        clear hK K cq
        refine wpAnyIn_ready (rs := [3, 4, 5]) (by kernel_rfl) (by simp) (AllReadyIn.cons rfl (fun K hK => ?_) (AllReadyIn.cons rfl (fun K hK => ?_) (AllReadyIn.cons rfl (fun K hK => ?_) AllReadyIn.nil)))
        · refine step_liesIn (by rfl) _ _ 54 (by rfl) Tryz.underlying54 hi hz0 hz1 hz2 rfl (by decide) (by rfl) H.ra [str k] (by rfl) TA (by rfl) (by simp [Value.oneCell']) lena1 lena2 H.base ?_
          intro ga cpa W' hr hg hl
          refine hK _ _ ?_
          clear hK K
          have H := H.appA hr hg hl
          clear hr hg hl TA
          go_simp
          refine wpAnyIn_ready (rs := [4, 5]) (by kernel_rfl) (by simp) (AllReadyIn.cons rfl (fun K hK => ?_) (AllReadyIn.cons rfl (fun K hK => ?_) AllReadyIn.nil))
          · have cq := box_cell H.bb 0
            go_simp
            refine hK _ _ ?_
            clear hK K cq
            refine wpAnyIn_ready (rs := [5]) (by kernel_rfl) (by simp) (AllReadyIn.cons rfl (fun K hK => ?_) AllReadyIn.nil)
            have c0 := box_cell H.bx 0
            have c1 := box_cell H.bx 1
            have c2 := box_cell H.bx 2
            have c3 := box_cell H.bx 3
            have c4 := box_cell H.bx 4
            go_simp
            refine hK _ _ ?_
            clear hK K c0 c1 c2 c3 c4
            refine wpAnyIn_ready (rs := [6]) (by kernel_rfl) (by simp) (AllReadyIn.cons rfl (fun K hK => ?_) AllReadyIn.nil)
            go_simp
            refine (callsIn_wide.2 (plain_any x hsx.out _ _ _ H.rx)).mono ?_
            rintro e W2 ⟨us, rfl, hy, hb2⟩
            obtain ⟨ya, yl, yc, yb, ym, yd, rfl, _, _⟩ := id hy.open
            refine hK _ _ ?_
            clear hK K
            have SA := fun g hg => (H.ra.lt g hg).2
            have SB := fun g hg => (H.rb.lt g hg).2
            have S9 := H.base
            have H := H.up hb2
            clear hb2
            go_simp
            refine wpAnyIn_ready (rs := [7]) (by kernel_rfl) (by simp) (AllReadyIn.cons rfl (fun K hK => ?_) AllReadyIn.nil)
            go_simp
            refine hK _ _ ?_
            clear hK K
            obtain ⟨H, TB⟩ := H.temp [.int .i64 x.kind, .int .i64 x.n, str x.s, .slice ya yl yc, .slice yb ym yd] 35
            have hy := temp_rd hy (.cells ([.int .i64 x.kind, .int .i64 x.n, str x.s, .slice ya yl yc, .slice yb ym yd] : List Value).toArray 35)
            refine wpAnyIn_ready (rs := [8]) (by kernel_rfl) (by simp) (AllReadyIn.cons rfl (fun K hK => ?_) AllReadyIn.nil)
            refine step_liesIn (by rfl) _ _ 32 (by rfl) Tryz.underlying32 gi gz0 gz1 gz2 rfl (by decide) (by rfl) H.rb [.int .i64 x.kind, .int .i64 x.n, str x.s, .slice ya yl yc, .slice yb ym yd] (by rfl) TB (by rfl) (by simp [Value.oneCell']) lenb1 lenb2 H.base ?_
            intro gb cpb W' hr hg hl
            refine hK _ _ ?_
            clear hK K
            have H := H.appB hr hg hl hy S9 SA SB
            clear hr hg hl TB
            go_simp
            refine wpAnyIn_ready (rs := [9]) (by kernel_rfl) (by simp) (AllReadyIn.cons rfl (fun K hK => ?_) AllReadyIn.nil)
            have cq := box_cell H.ba 0
            have fq := box_fr H.ba
            go_simp
            refine hK _ _ ?_
            clear hK K cq fq
            have H := H.setA (.slice (some ⟨ga, 0, none⟩) (ka.length + 1) cpa)
            refine wpAnyIn_ready (rs := [10]) (by kernel_rfl) (by simp) (AllReadyIn.cons rfl (fun K hK => ?_) AllReadyIn.nil)
            have cq := box_cell H.bb 0
            have fq := box_fr H.bb
            go_simp
            refine hK _ _ ?_
            clear hK K cq fq
            have H := H.setB (.slice (some ⟨gb, 0, none⟩) (kb.length + 1) cpb)
            refine wpAnyIn_done (by kernel_rfl) ?_ _
            exact ⟨rfl, _, _, _, _, _, _, _, rfl, _, H⟩
          have c0 := box_cell H.bx 0
          have c1 := box_cell H.bx 1
          have c2 := box_cell H.bx 2
          have c3 := box_cell H.bx 3
          have c4 := box_cell H.bx 4
          go_simp
          refine hK _ _ ?_
          clear hK K c0 c1 c2 c3 c4
          refine wpAnyIn_ready (rs := [4, 6]) (by kernel_rfl) (by simp) (AllReadyIn.cons rfl (fun K hK => ?_) (AllReadyIn.cons rfl (fun K hK => ?_) AllReadyIn.nil))
          · have cq := box_cell H.bb 0
            go_simp
            refine hK _ _ ?_
            clear hK K cq
            refine wpAnyIn_ready (rs := [6]) (by kernel_rfl) (by simp) (AllReadyIn.cons rfl (fun K hK => ?_) AllReadyIn.nil)
            go_simp
            refine (callsIn_wide.2 (plain_any x hsx.out _ _ _ H.rx)).mono ?_
            rintro e W2 ⟨us, rfl, hy, hb2⟩
            obtain ⟨ya, yl, yc, yb, ym, yd, rfl, _, _⟩ := id hy.open
            refine hK _ _ ?_
            clear hK K
            have SA := fun g hg => (H.ra.lt g hg).2
            have SB := fun g hg => (H.rb.lt g hg).2
            have S9 := H.base
            have H := H.up hb2
            clear hb2
            go_simp
            refine wpAnyIn_ready (rs := [7]) (by kernel_rfl) (by simp) (AllReadyIn.cons rfl (fun K hK => ?_) AllReadyIn.nil)
            go_simp
            refine hK _ _ ?_
            clear hK K
            obtain ⟨H, TB⟩ := H.temp [.int .i64 x.kind, .int .i64 x.n, str x.s, .slice ya yl yc, .slice yb ym yd] 35
            have hy := temp_rd hy (.cells ([.int .i64 x.kind, .int .i64 x.n, str x.s, .slice ya yl yc, .slice yb ym yd] : List Value).toArray 35)
            refine wpAnyIn_ready (rs := [8]) (by kernel_rfl) (by simp) (AllReadyIn.cons rfl (fun K hK => ?_) AllReadyIn.nil)
            refine step_liesIn (by rfl) _ _ 32 (by rfl) Tryz.underlying32 gi gz0 gz1 gz2 rfl (by decide) (by rfl) H.rb [.int .i64 x.kind, .int .i64 x.n, str x.s, .slice ya yl yc, .slice yb ym yd] (by rfl) TB (by rfl) (by simp [Value.oneCell']) lenb1 lenb2 H.base ?_
            intro gb cpb W' hr hg hl
            refine hK _ _ ?_
            clear hK K
            have H := H.appB hr hg hl hy S9 SA SB
            clear hr hg hl TB
            go_simp
            refine wpAnyIn_ready (rs := [9]) (by kernel_rfl) (by simp) (AllReadyIn.cons rfl (fun K hK => ?_) AllReadyIn.nil)
            have cq := box_cell H.ba 0
            have fq := box_fr H.ba
            go_simp
            refine hK _ _ ?_
            clear hK K cq fq
            have H := H.setA (.slice (some ⟨ga, 0, none⟩) (ka.length + 1) cpa)
            refine wpAnyIn_ready (rs := [10]) (by kernel_rfl) (by simp) (AllReadyIn.cons rfl (fun K hK => ?_) AllReadyIn.nil)
            have cq := box_cell H.bb 0
            have fq := box_fr H.bb
            go_simp
            refine hK _ _ ?_
            clear hK K cq fq
            have H := H.setB (.slice (some ⟨gb, 0, none⟩) (kb.length + 1) cpb)
            refine wpAnyIn_done (by kernel_rfl) ?_ _
            exact ⟨rfl, _, _, _, _, _, _, _, rfl, _, H⟩
          go_simp
          refine (callsIn_wide.2 (plain_any x hsx.out _ _ _ H.rx)).mono ?_
          rintro e W2 ⟨us, rfl, hy, hb2⟩
          obtain ⟨ya, yl, yc, yb, ym, yd, rfl, _, _⟩ := id hy.open
          refine hK _ _ ?_
          clear hK K
          have SA := fun g hg => (H.ra.lt g hg).2
          have SB := fun g hg => (H.rb.lt g hg).2
          have S9 := H.base
          have H := H.up hb2
          clear hb2
          go_simp
          refine wpAnyIn_ready (rs := [4, 7]) (by kernel_rfl) (by simp) (AllReadyIn.cons rfl (fun K hK => ?_) (AllReadyIn.cons rfl (fun K hK => ?_) AllReadyIn.nil))
          · have cq := box_cell H.bb 0
            go_simp
            refine hK _ _ ?_
            clear hK K cq
            refine wpAnyIn_ready (rs := [7]) (by kernel_rfl) (by simp) (AllReadyIn.cons rfl (fun K hK => ?_) AllReadyIn.nil)
            go_simp
            refine hK _ _ ?_
            clear hK K
            obtain ⟨H, TB⟩ := H.temp [.int .i64 x.kind, .int .i64 x.n, str x.s, .slice ya yl yc, .slice yb ym yd] 35
            have hy := temp_rd hy (.cells ([.int .i64 x.kind, .int .i64 x.n, str x.s, .slice ya yl yc, .slice yb ym yd] : List Value).toArray 35)
            refine wpAnyIn_ready (rs := [8]) (by kernel_rfl) (by simp) (AllReadyIn.cons rfl (fun K hK => ?_) AllReadyIn.nil)
            refine step_liesIn (by rfl) _ _ 32 (by rfl) Tryz.underlying32 gi gz0 gz1 gz2 rfl (by decide) (by rfl) H.rb [.int .i64 x.kind, .int .i64 x.n, str x.s, .slice ya yl yc, .slice yb ym yd] (by rfl) TB (by rfl) (by simp [Value.oneCell']) lenb1 lenb2 H.base ?_
            intro gb cpb W' hr hg hl
            refine hK _ _ ?_
            clear hK K
            have H := H.appB hr hg hl hy S9 SA SB
            clear hr hg hl TB
            go_simp
            refine wpAnyIn_ready (rs := [9]) (by kernel_rfl) (by simp) (AllReadyIn.cons rfl (fun K hK => ?_) AllReadyIn.nil)
            have cq := box_cell H.ba 0
            have fq := box_fr H.ba
            go_simp
            refine hK _ _ ?_
            clear hK K cq fq
            have H := H.setA (.slice (some ⟨ga, 0, none⟩) (ka.length + 1) cpa)
            refine wpAnyIn_ready (rs := [10]) (by kernel_rfl) (by simp) (AllReadyIn.cons rfl (fun K hK => ?_) AllReadyIn.nil)
            have cq := box_cell H.bb 0
            have fq := box_fr H.bb
            go_simp
            refine hK _ _ ?_
            clear hK K cq fq
            have H := H.setB (.slice (some ⟨gb, 0, none⟩) (kb.length + 1) cpb)
            refine wpAnyIn_done (by kernel_rfl) ?_ _
            exact ⟨rfl, _, _, _, _, _, _, _, rfl, _, H⟩
          go_simp
          refine hK _ _ ?_
          clear hK K
          obtain ⟨H, TB⟩ := H.temp [.int .i64 x.kind, .int .i64 x.n, str x.s, .slice ya yl yc, .slice yb ym yd] 35
          have hy := temp_rd hy (.cells ([.int .i64 x.kind, .int .i64 x.n, str x.s, .slice ya yl yc, .slice yb ym yd] : List Value).toArray 35)
          refine wpAnyIn_ready (rs := [4]) (by kernel_rfl) (by simp) (AllReadyIn.cons rfl (fun K hK => ?_) AllReadyIn.nil)
          have cq := box_cell H.bb 0
          go_simp
          refine hK _ _ ?_
          clear hK K cq
          refine wpAnyIn_ready (rs := [8]) (by kernel_rfl) (by simp) (AllReadyIn.cons rfl (fun K hK => ?_) AllReadyIn.nil)
          refine step_liesIn (by rfl) _ _ 32 (by rfl) Tryz.underlying32 gi gz0 gz1 gz2 rfl (by decide) (by rfl) H.rb [.int .i64 x.kind, .int .i64 x.n, str x.s, .slice ya yl yc, .slice yb ym yd] (by rfl) TB (by rfl) (by simp [Value.oneCell']) lenb1 lenb2 H.base ?_
          intro gb cpb W' hr hg hl
          refine hK _ _ ?_
          clear hK K
          have H := H.appB hr hg hl hy S9 SA SB
          clear hr hg hl TB
          go_simp
          refine wpAnyIn_ready (rs := [9]) (by kernel_rfl) (by simp) (AllReadyIn.cons rfl (fun K hK => ?_) AllReadyIn.nil)
          have cq := box_cell H.ba 0
          have fq := box_fr H.ba
          go_simp
          refine hK _ _ ?_
          clear hK K cq fq
          have H := H.setA (.slice (some ⟨ga, 0, none⟩) (ka.length + 1) cpa)
          refine wpAnyIn_ready (rs := [10]) (by kernel_rfl) (by simp) (AllReadyIn.cons rfl (fun K hK => ?_) AllReadyIn.nil)
          have cq := box_cell H.bb 0
          have fq := box_fr H.bb
          go_simp
          refine hK _ _ ?_
          clear hK K cq fq
          have H := H.setB (.slice (some ⟨gb, 0, none⟩) (kb.length + 1) cpb)
          refine wpAnyIn_done (by kernel_rfl) ?_ _
          exact ⟨rfl, _, _, _, _, _, _, _, rfl, _, H⟩
        · have cq := box_cell H.bb 0
          go_simp
          refine hK _ _ ?_
          clear hK K cq
          refine wpAnyIn_ready (rs := [3, 5]) (by kernel_rfl) (by simp) (AllReadyIn.cons rfl (fun K hK => ?_) (AllReadyIn.cons rfl (fun K hK => ?_) AllReadyIn.nil))
          · refine step_liesIn (by rfl) _ _ 54 (by rfl) Tryz.underlying54 hi hz0 hz1 hz2 rfl (by decide) (by rfl) H.ra [str k] (by rfl) TA (by rfl) (by simp [Value.oneCell']) lena1 lena2 H.base ?_
            intro ga cpa W' hr hg hl
            refine hK _ _ ?_
            clear hK K
            have H := H.appA hr hg hl
            clear hr hg hl TA
            go_simp
            refine wpAnyIn_ready (rs := [5]) (by kernel_rfl) (by simp) (AllReadyIn.cons rfl (fun K hK => ?_) AllReadyIn.nil)
            have c0 := box_cell H.bx 0
            have c1 := box_cell H.bx 1
            have c2 := box_cell H.bx 2
            have c3 := box_cell H.bx 3
            have c4 := box_cell H.bx 4
            go_simp
            refine hK _ _ ?_
            clear hK K c0 c1 c2 c3 c4
            refine wpAnyIn_ready (rs := [6]) (by kernel_rfl) (by simp) (AllReadyIn.cons rfl (fun K hK => ?_) AllReadyIn.nil)
            go_simp
            refine (callsIn_wide.2 (plain_any x hsx.out _ _ _ H.rx)).mono ?_
            rintro e W2 ⟨us, rfl, hy, hb2⟩
            obtain ⟨ya, yl, yc, yb, ym, yd, rfl, _, _⟩ := id hy.open
            refine hK _ _ ?_
            clear hK K
            have SA := fun g hg => (H.ra.lt g hg).2
            have SB := fun g hg => (H.rb.lt g hg).2
            have S9 := H.base
            have H := H.up hb2
            clear hb2
            go_simp
            refine wpAnyIn_ready (rs := [7]) (by kernel_rfl) (by simp) (AllReadyIn.cons rfl (fun K hK => ?_) AllReadyIn.nil)
            go_simp
            refine hK _ _ ?_
            clear hK K
            obtain ⟨H, TB⟩ := H.temp [.int .i64 x.kind, .int .i64 x.n, str x.s, .slice ya yl yc, .slice yb ym yd] 35
            have hy := temp_rd hy (.cells ([.int .i64 x.kind, .int .i64 x.n, str x.s, .slice ya yl yc, .slice yb ym yd] : List Value).toArray 35)
            refine wpAnyIn_ready (rs := [8]) (by kernel_rfl) (by simp) (AllReadyIn.cons rfl (fun K hK => ?_) AllReadyIn.nil)
            refine step_liesIn (by rfl) _ _ 32 (by rfl) Tryz.underlying32 gi gz0 gz1 gz2 rfl (by decide) (by rfl) H.rb [.int .i64 x.kind, .int .i64 x.n, str x.s, .slice ya yl yc, .slice yb ym yd] (by rfl) TB (by rfl) (by simp [Value.oneCell']) lenb1 lenb2 H.base ?_
            intro gb cpb W' hr hg hl
            refine hK _ _ ?_
            clear hK K
            have H := H.appB hr hg hl hy S9 SA SB
            clear hr hg hl TB
            go_simp
            refine wpAnyIn_ready (rs := [9]) (by kernel_rfl) (by simp) (AllReadyIn.cons rfl (fun K hK => ?_) AllReadyIn.nil)
            have cq := box_cell H.ba 0
            have fq := box_fr H.ba
            go_simp
            refine hK _ _ ?_
            clear hK K cq fq
            have H := H.setA (.slice (some ⟨ga, 0, none⟩) (ka.length + 1) cpa)
            refine wpAnyIn_ready (rs := [10]) (by kernel_rfl) (by simp) (AllReadyIn.cons rfl (fun K hK => ?_) AllReadyIn.nil)
            have cq := box_cell H.bb 0
            have fq := box_fr H.bb
            go_simp
            refine hK _ _ ?_
            clear hK K cq fq
            have H := H.setB (.slice (some ⟨gb, 0, none⟩) (kb.length + 1) cpb)
            refine wpAnyIn_done (by kernel_rfl) ?_ _
            exact ⟨rfl, _, _, _, _, _, _, _, rfl, _, H⟩
          have c0 := box_cell H.bx 0
          have c1 := box_cell H.bx 1
          have c2 := box_cell H.bx 2
          have c3 := box_cell H.bx 3
          have c4 := box_cell H.bx 4
          go_simp
          refine hK _ _ ?_
          clear hK K c0 c1 c2 c3 c4
          refine wpAnyIn_ready (rs := [3]) (by kernel_rfl) (by simp) (AllReadyIn.cons rfl (fun K hK => ?_) AllReadyIn.nil)
          refine step_liesIn (by rfl) _ _ 54 (by rfl) Tryz.underlying54 hi hz0 hz1 hz2 rfl (by decide) (by rfl) H.ra [str k] (by rfl) TA (by rfl) (by simp [Value.oneCell']) lena1 lena2 H.base ?_
          intro ga cpa W' hr hg hl
          refine hK _ _ ?_
          clear hK K
          have H := H.appA hr hg hl
          clear hr hg hl TA
          go_simp
          refine wpAnyIn_ready (rs := [6]) (by kernel_rfl) (by simp) (AllReadyIn.cons rfl (fun K hK => ?_) AllReadyIn.nil)
          go_simp
          refine (callsIn_wide.2 (plain_any x hsx.out _ _ _ H.rx)).mono ?_
          rintro e W2 ⟨us, rfl, hy, hb2⟩
          obtain ⟨ya, yl, yc, yb, ym, yd, rfl, _, _⟩ := id hy.open
          refine hK _ _ ?_
          clear hK K
          have SA := fun g hg => (H.ra.lt g hg).2
          have SB := fun g hg => (H.rb.lt g hg).2
          have S9 := H.base
          have H := H.up hb2
          clear hb2
          go_simp
          refine wpAnyIn_ready (rs := [7]) (by kernel_rfl) (by simp) (AllReadyIn.cons rfl (fun K hK => ?_) AllReadyIn.nil)
          go_simp
          refine hK _ _ ?_
          clear hK K
          obtain ⟨H, TB⟩ := H.temp [.int .i64 x.kind, .int .i64 x.n, str x.s, .slice ya yl yc, .slice yb ym yd] 35
          have hy := temp_rd hy (.cells ([.int .i64 x.kind, .int .i64 x.n, str x.s, .slice ya yl yc, .slice yb ym yd] : List Value).toArray 35)
          refine wpAnyIn_ready (rs := [8]) (by kernel_rfl) (by simp) (AllReadyIn.cons rfl (fun K hK => ?_) AllReadyIn.nil)
          refine step_liesIn (by rfl) _ _ 32 (by rfl) Tryz.underlying32 gi gz0 gz1 gz2 rfl (by decide) (by rfl) H.rb [.int .i64 x.kind, .int .i64 x.n, str x.s, .slice ya yl yc, .slice yb ym yd] (by rfl) TB (by rfl) (by simp [Value.oneCell']) lenb1 lenb2 H.base ?_
          intro gb cpb W' hr hg hl
          refine hK _ _ ?_
          clear hK K
          have H := H.appB hr hg hl hy S9 SA SB
          clear hr hg hl TB
          go_simp
          refine wpAnyIn_ready (rs := [9]) (by kernel_rfl) (by simp) (AllReadyIn.cons rfl (fun K hK => ?_) AllReadyIn.nil)
          have cq := box_cell H.ba 0
          have fq := box_fr H.ba
          go_simp
          refine hK _ _ ?_
          clear hK K cq fq
          have H := H.setA (.slice (some ⟨ga, 0, none⟩) (ka.length + 1) cpa)
          refine wpAnyIn_ready (rs := [10]) (by kernel_rfl) (by simp) (AllReadyIn.cons rfl (fun K hK => ?_) AllReadyIn.nil)
          have cq := box_cell H.bb 0
          have fq := box_fr H.bb
          go_simp
          refine hK _ _ ?_
          clear hK K cq fq
          have H := H.setB (.slice (some ⟨gb, 0, none⟩) (kb.length + 1) cpb)
          refine wpAnyIn_done (by kernel_rfl) ?_ _
          exact ⟨rfl, _, _, _, _, _, _, _, rfl, _, H⟩
        have c0 := box_cell H.bx 0
        have c1 := box_cell H.bx 1
        have c2 := box_cell H.bx 2
        have c3 := box_cell H.bx 3
        have c4 := box_cell H.bx 4
        go_simp
        refine hK _ _ ?_
        clear hK K c0 c1 c2 c3 c4
        refine wpAnyIn_ready (rs := [3, 4]) (by kernel_rfl) (by simp) (AllReadyIn.cons rfl (fun K hK => ?_) (AllReadyIn.cons rfl (fun K hK => ?_) AllReadyIn.nil))
        · refine step_liesIn (by rfl) _ _ 54 (by rfl) Tryz.underlying54 hi hz0 hz1 hz2 rfl (by decide) (by rfl) H.ra [str k] (by rfl) TA (by rfl) (by simp [Value.oneCell']) lena1 lena2 H.base ?_
          intro ga cpa W' hr hg hl
          refine hK _ _ ?_
          clear hK K
          have H := H.appA hr hg hl
          clear hr hg hl TA
          go_simp
          refine wpAnyIn_ready (rs := [4, 6]) (by kernel_rfl) (by simp) (AllReadyIn.cons rfl (fun K hK => ?_) (AllReadyIn.cons rfl (fun K hK => ?_) AllReadyIn.nil))
          · have cq := box_cell H.bb 0
            go_simp
            refine hK _ _ ?_
            clear hK K cq
            refine wpAnyIn_ready (rs := [6]) (by kernel_rfl) (by simp) (AllReadyIn.cons rfl (fun K hK => ?_) AllReadyIn.nil)
            go_simp
            refine (callsIn_wide.2 (plain_any x hsx.out _ _ _ H.rx)).mono ?_
            rintro e W2 ⟨us, rfl, hy, hb2⟩
            obtain ⟨ya, yl, yc, yb, ym, yd, rfl, _, _⟩ := id hy.open
            refine hK _ _ ?_
            clear hK K
            have SA := fun g hg => (H.ra.lt g hg).2
            have SB := fun g hg => (H.rb.lt g hg).2
            have S9 := H.base
            have H := H.up hb2
            clear hb2
            go_simp
            refine wpAnyIn_ready (rs := [7]) (by kernel_rfl) (by simp) (AllReadyIn.cons rfl (fun K hK => ?_) AllReadyIn.nil)
            go_simp
            refine hK _ _ ?_
            clear hK K
            obtain ⟨H, TB⟩ := H.temp [.int .i64 x.kind, .int .i64 x.n, str x.s, .slice ya yl yc, .slice yb ym yd] 35
            have hy := temp_rd hy (.cells ([.int .i64 x.kind, .int .i64 x.n, str x.s, .slice ya yl yc, .slice yb ym yd] : List Value).toArray 35)
            refine wpAnyIn_ready (rs := [8]) (by kernel_rfl) (by simp) (AllReadyIn.cons rfl (fun K hK => ?_) AllReadyIn.nil)
            refine step_liesIn (by rfl) _ _ 32 (by rfl) Tryz.underlying32 gi gz0 gz1 gz2 rfl (by decide) (by rfl) H.rb [.int .i64 x.kind, .int .i64 x.n, str x.s, .slice ya yl yc, .slice yb ym yd] (by rfl) TB (by rfl) (by simp [Value.oneCell']) lenb1 lenb2 H.base ?_
            intro gb cpb W' hr hg hl
            refine hK _ _ ?_
            clear hK K
            have H := H.appB hr hg hl hy S9 SA SB
            clear hr hg hl TB
            go_simp
            refine wpAnyIn_ready (rs := [9]) (by kernel_rfl) (by simp) (AllReadyIn.cons rfl (fun K hK => ?_) AllReadyIn.nil)
            have cq := box_cell H.ba 0
            have fq := box_fr H.ba
            go_simp
            refine hK _ _ ?_
            clear hK K cq fq
            have H := H.setA (.slice (some ⟨ga, 0, none⟩) (ka.length + 1) cpa)
            refine wpAnyIn_ready (rs := [10]) (by kernel_rfl) (by simp) (AllReadyIn.cons rfl (fun K hK => ?_) AllReadyIn.nil)
            have cq := box_cell H.bb 0
            have fq := box_fr H.bb
            go_simp
            refine hK _ _ ?_
            clear hK K cq fq
            have H := H.setB (.slice (some ⟨gb, 0, none⟩) (kb.length + 1) cpb)
            refine wpAnyIn_done (by kernel_rfl) ?_ _
            exact ⟨rfl, _, _, _, _, _, _, _, rfl, _, H⟩
          go_simp
          refine (callsIn_wide.2 (plain_any x hsx.out _ _ _ H.rx)).mono ?_
          rintro e W2 ⟨us, rfl, hy, hb2⟩
          obtain ⟨ya, yl, yc, yb, ym, yd, rfl, _, _⟩ := id hy.open
          refine hK _ _ ?_
          clear hK K
          have SA := fun g hg => (H.ra.lt g hg).2
          have SB := fun g hg => (H.rb.lt g hg).2
          have S9 := H.base
          have H := H.up hb2
          clear hb2
          go_simp
          refine wpAnyIn_ready (rs := [4, 7]) (by kernel_rfl) (by simp) (AllReadyIn.cons rfl (fun K hK => ?_) (AllReadyIn.cons rfl (fun K hK => ?_) AllReadyIn.nil))
          · have cq := box_cell H.bb 0
            go_simp
            refine hK _ _ ?_
            clear hK K cq
            refine wpAnyIn_ready (rs := [7]) (by kernel_rfl) (by simp) (AllReadyIn.cons rfl (fun K hK => ?_) AllReadyIn.nil)
            go_simp
            refine hK _ _ ?_
            clear hK K
            obtain ⟨H, TB⟩ := H.temp [.int .i64 x.kind, .int .i64 x.n, str x.s, .slice ya yl yc, .slice yb ym yd] 35
            have hy := temp_rd hy (.cells ([.int .i64 x.kind, .int .i64 x.n, str x.s, .slice ya yl yc, .slice yb ym yd] : List Value).toArray 35)
            refine wpAnyIn_ready (rs := [8]) (by kernel_rfl) (by simp) (AllReadyIn.cons rfl (fun K hK => ?_) AllReadyIn.nil)
            refine step_liesIn (by rfl) _ _ 32 (by rfl) Tryz.underlying32 gi gz0 gz1 gz2 rfl (by decide) (by rfl) H.rb [.int .i64 x.kind, .int .i64 x.n, str x.s, .slice ya yl yc, .slice yb ym yd] (by rfl) TB (by rfl) (by simp [Value.oneCell']) lenb1 lenb2 H.base ?_
            intro gb cpb W' hr hg hl
            refine hK _ _ ?_
            clear hK K
            have H := H.appB hr hg hl hy S9 SA SB
            clear hr hg hl TB
            go_simp
            refine wpAnyIn_ready (rs := [9]) (by kernel_rfl) (by simp) (AllReadyIn.cons rfl (fun K hK => ?_) AllReadyIn.nil)
            have cq := box_cell H.ba 0
            have fq := box_fr H.ba
            go_simp
            refine hK _ _ ?_
            clear hK K cq fq
            have H := H.setA (.slice (some ⟨ga, 0, none⟩) (ka.length + 1) cpa)
            refine wpAnyIn_ready (rs := [10]) (by kernel_rfl) (by simp) (AllReadyIn.cons rfl (fun K hK => ?_) AllReadyIn.nil)
            have cq := box_cell H.bb 0
            have fq := box_fr H.bb
            go_simp
            refine hK _ _ ?_
            clear hK K cq fq
            have H := H.setB (.slice (some ⟨gb, 0, none⟩) (kb.length + 1) cpb)
            refine wpAnyIn_done (by kernel_rfl) ?_ _
            exact ⟨rfl, _, _, _, _, _, _, _, rfl, _, H⟩
          go_simp
          refine hK _ _ ?_
          clear hK K
          obtain ⟨H, TB⟩ := H.temp [.int .i64 x.kind, .int .i64 x.n, str x.s, .slice ya yl yc, .slice yb ym yd] 35
          have hy := temp_rd hy (.cells ([.int .i64 x.kind, .int .i64 x.n, str x.s, .slice ya yl yc, .slice yb ym yd] : List Value).toArray 35)
          refine wpAnyIn_ready (rs := [4]) (by kernel_rfl) (by simp) (AllReadyIn.cons rfl (fun K hK => ?_) AllReadyIn.nil)
          have cq := box_cell H.bb 0
          go_simp
          refine hK _ _ ?_
          clear hK K cq
          refine wpAnyIn_ready (rs := [8]) (by kernel_rfl) (by simp) (AllReadyIn.cons rfl (fun K hK => ?_) AllReadyIn.nil)
          refine step_liesIn (by rfl) _ _ 32 (by rfl) Tryz.underlying32 gi gz0 gz1 gz2 rfl (by decide) (by rfl) H.rb [.int .i64 x.kind, .int .i64 x.n, str x.s, .slice ya yl yc, .slice yb ym yd] (by rfl) TB (by rfl) (by simp [Value.oneCell']) lenb1 lenb2 H.base ?_
          intro gb cpb W' hr hg hl
          refine hK _ _ ?_
          clear hK K
          have H := H.appB hr hg hl hy S9 SA SB
          clear hr hg hl TB
          go_simp
          refine wpAnyIn_ready (rs := [9]) (by kernel_rfl) (by simp) (AllReadyIn.cons rfl (fun K hK => ?_) AllReadyIn.nil)
          have cq := box_cell H.ba 0
          have fq := box_fr H.ba
          go_simp
          refine hK _ _ ?_
          clear hK K cq fq
          have H := H.setA (.slice (some ⟨ga, 0, none⟩) (ka.length + 1) cpa)
          refine wpAnyIn_ready (rs := [10]) (by kernel_rfl) (by simp) (AllReadyIn.cons rfl (fun K hK => ?_) AllReadyIn.nil)
          have cq := box_cell H.bb 0
          have fq := box_fr H.bb
          go_simp
          refine hK _ _ ?_
          clear hK K cq fq
          have H := H.setB (.slice (some ⟨gb, 0, none⟩) (kb.length + 1) cpb)
          refine wpAnyIn_done (by kernel_rfl) ?_ _
          exact ⟨rfl, _, _, _, _, _, _, _, rfl, _, H⟩
        have cq := box_cell H.bb 0
        go_simp
        refine hK _ _ ?_
        clear hK K cq
        refine wpAnyIn_ready (rs := [3]) (by kernel_rfl) (by simp) (AllReadyIn.cons rfl (fun K hK => ?_) AllReadyIn.nil)
        refine step_liesIn (by rfl) _ _ 54 (by rfl) Tryz.underlying54 hi hz0 hz1 hz2 rfl (by decide) (by rfl) H.ra [str k] (by rfl) TA (by rfl) (by simp [Value.oneCell']) lena1 lena2 H.base ?_
        intro ga cpa W' hr hg hl
        refine hK _ _ ?_
        clear hK K
        have H := H.appA hr hg hl
        clear hr hg hl TA
        go_simp
        refine wpAnyIn_ready (rs := [6]) (by kernel_rfl) (by simp) (AllReadyIn.cons rfl (fun K hK => ?_) AllReadyIn.nil)
        go_simp
        refine (callsIn_wide.2 (plain_any x hsx.out _ _ _ H.rx)).mono ?_
        rintro e W2 ⟨us, rfl, hy, hb2⟩
        obtain ⟨ya, yl, yc, yb, ym, yd, rfl, _, _⟩ := id hy.open
        refine hK _ _ ?_
        clear hK K
        have SA := fun g hg => (H.ra.lt g hg).2
        have SB := fun g hg => (H.rb.lt g hg).2
        have S9 := H.base
        have H := H.up hb2
        clear hb2
        go_simp
        refine wpAnyIn_ready (rs := [7]) (by kernel_rfl) (by simp) (AllReadyIn.cons rfl (fun K hK => ?_) AllReadyIn.nil)
        go_simp
        refine hK _ _ ?_
        clear hK K
        obtain ⟨H, TB⟩ := H.temp [.int .i64 x.kind, .int .i64 x.n, str x.s, .slice ya yl yc, .slice yb ym yd] 35
        have hy := temp_rd hy (.cells ([.int .i64 x.kind, .int .i64 x.n, str x.s, .slice ya yl yc, .slice yb ym yd] : List Value).toArray 35)
        refine wpAnyIn_ready (rs := [8]) (by kernel_rfl) (by simp) (AllReadyIn.cons rfl (fun K hK => ?_) AllReadyIn.nil)
        refine step_liesIn (by rfl) _ _ 32 (by rfl) Tryz.underlying32 gi gz0 gz1 gz2 rfl (by decide) (by rfl) H.rb [.int .i64 x.kind, .int .i64 x.n, str x.s, .slice ya yl yc, .slice yb ym yd] (by rfl) TB (by rfl) (by simp [Value.oneCell']) lenb1 lenb2 H.base ?_
        intro gb cpb W' hr hg hl
        refine hK _ _ ?_
        clear hK K
        have H := H.appB hr hg hl hy S9 SA SB
        clear hr hg hl TB
        go_simp
        refine wpAnyIn_ready (rs := [9]) (by kernel_rfl) (by simp) (AllReadyIn.cons rfl (fun K hK => ?_) AllReadyIn.nil)
        have cq := box_cell H.ba 0
        have fq := box_fr H.ba
        go_simp
        refine hK _ _ ?_
        clear hK K cq fq
        have H := H.setA (.slice (some ⟨ga, 0, none⟩) (ka.length + 1) cpa)
        refine wpAnyIn_ready (rs := [10]) (by kernel_rfl) (by simp) (AllReadyIn.cons rfl (fun K hK => ?_) AllReadyIn.nil)
        have cq := box_cell H.bb 0
        have fq := box_fr H.bb
        go_simp
        refine hK _ _ ?_
        clear hK K cq fq
        have H := H.setB (.slice (some ⟨gb, 0, none⟩) (kb.length + 1) cpb)
        refine wpAnyIn_done (by kernel_rfl) ?_ _
        exact ⟨rfl, _, _, _, _, _, _, _, rfl, _, H⟩
      · have cq := box_cell H.bb 0
        go_simp
        refine hK _ _ ?_
        clear hK K cq
        refine wpAnyIn_ready (rs := [0, 5]) (by kernel_rfl) (by simp) (AllReadyIn.cons rfl (fun K hK => ?_) (AllReadyIn.cons rfl (fun K hK => ?_) AllReadyIn.nil))
        · have cq := box_cell H.ba 0
          go_simp
          refine hK _ _ ?_
          clear hK K cq
          refine wpAnyIn_ready (rs := [3, 5]) (by kernel_rfl) (by simp) (AllReadyIn.cons rfl (fun K hK => ?_) (AllReadyIn.cons rfl (fun K hK => ?_) AllReadyIn.nil))
          · refine step_liesIn (by rfl) _ _ 54 (by rfl) Tryz.underlying54 hi hz0 hz1 hz2 rfl (by decide) (by rfl) H.ra [str k] (by rfl) TA (by rfl) (by simp [Value.oneCell']) lena1 lena2 H.base ?_
            intro ga cpa W' hr hg hl
            refine hK _ _ ?_
            clear hK K
            have H := H.appA hr hg hl
            clear hr hg hl TA
            go_simp
            refine wpAnyIn_ready (rs := [5]) (by kernel_rfl) (by simp) (AllReadyIn.cons rfl (fun K hK => ?_) AllReadyIn.nil)
            have c0 := box_cell H.bx 0
            have c1 := box_cell H.bx 1
            have c2 := box_cell H.bx 2
            have c3 := box_cell H.bx 3
            have c4 := box_cell H.bx 4
            go_simp
            refine hK _ _ ?_
            clear hK K c0 c1 c2 c3 c4
            refine wpAnyIn_ready (rs := [6]) (by kernel_rfl) (by simp) (AllReadyIn.cons rfl (fun K hK => ?_) AllReadyIn.nil)
            go_simp
            refine (callsIn_wide.2 (plain_any x hsx.out _ _ _ H.rx)).mono ?_
            rintro e W2 ⟨us, rfl, hy, hb2⟩
            obtain ⟨ya, yl, yc, yb, ym, yd, rfl, _, _⟩ := id hy.open
            refine hK _ _ ?_
            clear hK K
            have SA := fun g hg => (H.ra.lt g hg).2
            have SB := fun g hg => (H.rb.lt g hg).2
            have S9 := H.base
            have H := H.up hb2
            clear hb2
            go_simp
            refine wpAnyIn_ready (rs := [7]) (by kernel_rfl) (by simp) (AllReadyIn.cons rfl (fun K hK => ?_) AllReadyIn.nil)
            go_simp
            refine hK _ _ ?_
            clear hK K
            obtain ⟨H, TB⟩ := H.temp [.int .i64 x.kind, .int .i64 x.n, str x.s, .slice ya yl yc, .slice yb ym yd] 35
            have hy := temp_rd hy (.cells ([.int .i64 x.kind, .int .i64 x.n, str x.s, .slice ya yl yc, .slice yb ym yd] : List Value).toArray 35)
            refine wpAnyIn_ready (rs := [8]) (by kernel_rfl) (by simp) (AllReadyIn.cons rfl (fun K hK => ?_) AllReadyIn.nil)
            refine step_liesIn (by rfl) _ _ 32 (by rfl) Tryz.underlying32 gi gz0 gz1 gz2 rfl (by decide) (by rfl) H.rb [.int .i64 x.kind, .int .i64 x.n, str x.s, .slice ya yl yc, .slice yb ym yd] (by rfl) TB (by rfl) (by simp [Value.oneCell']) lenb1 lenb2 H.base ?_
            intro gb cpb W' hr hg hl
            refine hK _ _ ?_
            clear hK K
            have H := H.appB hr hg hl hy S9 SA SB
            clear hr hg hl TB
            go_simp
            refine wpAnyIn_ready (rs := [9]) (by kernel_rfl) (by simp) (AllReadyIn.cons rfl (fun K hK => ?_) AllReadyIn.nil)
            have cq := box_cell H.ba 0
            have fq := box_fr H.ba
            go_simp
            refine hK _ _ ?_
            clear hK K cq fq
            have H := H.setA (.slice (some ⟨ga, 0, none⟩) (ka.length + 1) cpa)
            refine wpAnyIn_ready (rs := [10]) (by kernel_rfl) (by simp) (AllReadyIn.cons rfl (fun K hK => ?_) AllReadyIn.nil)
            have cq := box_cell H.bb 0
            have fq := box_fr H.bb
            go_simp
            refine hK _ _ ?_
            clear hK K cq fq
            have H := H.setB (.slice (some ⟨gb, 0, none⟩) (kb.length + 1) cpb)
            refine wpAnyIn_done (by kernel_rfl) ?_ _
            exact ⟨rfl, _, _, _, _, _, _, _, rfl, _, H⟩
          have c0 := box_cell H.bx 0
          have c1 := box_cell H.bx 1
          have c2 := box_cell H.bx 2
          have c3 := box_cell H.bx 3
          have c4 := box_cell H.bx 4
          go_simp
          refine hK _ _ ?_
          clear hK K c0 c1 c2 c3 c4
          refine wpAnyIn_ready (rs := [3]) (by kernel_rfl) (by simp) (AllReadyIn.cons rfl (fun K hK => ?_) AllReadyIn.nil)
          refine step_liesIn (by rfl) _ _ 54 (by rfl) Tryz.underlying54 hi hz0 hz1 hz2 rfl (by decide) (by rfl) H.ra [str k] (by rfl) TA (by rfl) (by simp [Value.oneCell']) lena1 lena2 H.base ?_
          intro ga cpa W' hr hg hl
          refine hK _ _ ?_
          clear hK K
          have H := H.appA hr hg hl
          clear hr hg hl TA
          go_simp
          refine wpAnyIn_ready (rs := [6]) (by kernel_rfl) (by simp) (AllReadyIn.cons rfl (fun K hK => ?_) AllReadyIn.nil)
          go_simp
          refine (callsIn_wide.2 (plain_any x hsx.out _ _ _ H.rx)).mono ?_
          rintro e W2 ⟨us, rfl, hy, hb2⟩
          obtain ⟨ya, yl, yc, yb, ym, yd, rfl, _, _⟩ := id hy.open
          refine hK _ _ ?_
          clear hK K
          have SA := fun g hg => (H.ra.lt g hg).2
          have SB := fun g hg => (H.rb.lt g hg).2
          have S9 := H.base
          have H := H.up hb2
          clear hb2
          go_simp
          refine wpAnyIn_ready (rs := [7]) (by kernel_rfl) (by simp) (AllReadyIn.cons rfl (fun K hK => ?_) AllReadyIn.nil)
          go_simp
          refine hK _ _ ?_
          clear hK K
          obtain ⟨H, TB⟩ := H.temp [.int .i64 x.kind, .int .i64 x.n, str x.s, .slice ya yl yc, .slice yb ym yd] 35
          have hy := temp_rd hy (.cells ([.int .i64 x.kind, .int .i64 x.n, str x.s, .slice ya yl yc, .slice yb ym yd] : List Value).toArray 35)
          refine wpAnyIn_ready (rs := [8]) (by kernel_rfl) (by simp) (AllReadyIn.cons rfl (fun K hK => ?_) AllReadyIn.nil)
          refine step_liesIn (by rfl) _ _ 32 (by rfl) Tryz.underlying32 gi gz0 gz1 gz2 rfl (by decide) (by rfl) H.rb [.int .i64 x.kind, .int .i64 x.n, str x.s, .slice ya yl yc, .slice yb ym yd] (by rfl) TB (by rfl) (by simp [Value.oneCell']) lenb1 lenb2 H.base ?_
          intro gb cpb W' hr hg hl
          refine hK _ _ ?_
          clear hK K
          have H := H.appB hr hg hl hy S9 SA SB
          clear hr hg hl TB
          go_simp
          refine wpAnyIn_ready (rs := [9]) (by kernel_rfl) (by simp) (AllReadyIn.cons rfl (fun K hK => ?_) AllReadyIn.nil)
          have cq := box_cell H.ba 0
          have fq := box_fr H.ba
          go_simp
          refine hK _ _ ?_
          clear hK K cq fq
          have H := H.setA (.slice (some ⟨ga, 0, none⟩) (ka.length + 1) cpa)
          refine wpAnyIn_ready (rs := [10]) (by kernel_rfl) (by simp) (AllReadyIn.cons rfl (fun K hK => ?_) AllReadyIn.nil)
          have cq := box_cell H.bb 0
          have fq := box_fr H.bb
          go_simp
          refine hK _ _ ?_
          clear hK K cq fq
          have H := H.setB (.slice (some ⟨gb, 0, none⟩) (kb.length + 1) cpb)
          refine wpAnyIn_done (by kernel_rfl) ?_ _
          exact ⟨rfl, _, _, _, _, _, _, _, rfl, _, H⟩
        have c0 := box_cell H.bx 0
        have c1 := box_cell H.bx 1
        have c2 := box_cell H.bx 2
        have c3 := box_cell H.bx 3
        have c4 := box_cell H.bx 4
        go_simp
        refine hK _ _ ?_
        clear hK K c0 c1 c2 c3 c4
        refine wpAnyIn_ready (rs := [0]) (by kernel_rfl) (by simp) (AllReadyIn.cons rfl (fun K hK => ?_) AllReadyIn.nil)
        have cq := box_cell H.ba 0
        go_simp
        refine hK _ _ ?_
        clear hK K cq
        refine wpAnyIn_ready (rs := [3]) (by kernel_rfl) (by simp) (AllReadyIn.cons rfl (fun K hK => ?_) AllReadyIn.nil)
        refine step_liesIn (by rfl) _ _ 54 (by rfl) Tryz.underlying54 hi hz0 hz1 hz2 rfl (by decide) (by rfl) H.ra [str k] (by rfl) TA (by rfl) (by simp [Value.oneCell']) lena1 lena2 H.base ?_
        intro ga cpa W' hr hg hl
        refine hK _ _ ?_
        clear hK K
        have H := H.appA hr hg hl
        clear hr hg hl TA
        go_simp
        refine wpAnyIn_ready (rs := [6]) (by kernel_rfl) (by simp) (AllReadyIn.cons rfl (fun K hK => ?_) AllReadyIn.nil)
        go_simp
        refine (callsIn_wide.2 (plain_any x hsx.out _ _ _ H.rx)).mono ?_
        rintro e W2 ⟨us, rfl, hy, hb2⟩
        obtain ⟨ya, yl, yc, yb, ym, yd, rfl, _, _⟩ := id hy.open
        refine hK _ _ ?_
        clear hK K
        have SA := fun g hg => (H.ra.lt g hg).2
        have SB := fun g hg => (H.rb.lt g hg).2
        have S9 := H.base
        have H := H.up hb2
        clear hb2
        go_simp
        refine wpAnyIn_ready (rs := [7]) (by kernel_rfl) (by simp) (AllReadyIn.cons rfl (fun K hK => ?_) AllReadyIn.nil)
        go_simp
        refine hK _ _ ?_
        clear hK K
        obtain ⟨H, TB⟩ := H.temp [.int .i64 x.kind, .int .i64 x.n, str x.s, .slice ya yl yc, .slice yb ym yd] 35
        have hy := temp_rd hy (.cells ([.int .i64 x.kind, .int .i64 x.n, str x.s, .slice ya yl yc, .slice yb ym yd] : List Value).toArray 35)
        refine wpAnyIn_ready (rs := [8]) (by kernel_rfl) (by simp) (AllReadyIn.cons rfl (fun K hK => ?_) AllReadyIn.nil)
        refine step_liesIn (by rfl) _ _ 32 (by rfl) Tryz.underlying32 gi gz0 gz1 gz2 rfl (by decide) (by rfl) H.rb [.int .i64 x.kind, .int .i64 x.n, str x.s, .slice ya yl yc, .slice yb ym yd] (by rfl) TB (by rfl) (by simp [Value.oneCell']) lenb1 lenb2 H.base ?_
        intro gb cpb W' hr hg hl
        refine hK _ _ ?_
        clear hK K
        have H := H.appB hr hg hl hy S9 SA SB
        clear hr hg hl TB
        go_simp
        refine wpAnyIn_ready (rs := [9]) (by kernel_rfl) (by simp) (AllReadyIn.cons rfl (fun K hK => ?_) AllReadyIn.nil)
        have cq := box_cell H.ba 0
        have fq := box_fr H.ba
        go_simp
        refine hK _ _ ?_
        clear hK K cq fq
        have H := H.setA (.slice (some ⟨ga, 0, none⟩) (ka.length + 1) cpa)
        refine wpAnyIn_ready (rs := [10]) (by kernel_rfl) (by simp) (AllReadyIn.cons rfl (fun K hK => ?_) AllReadyIn.nil)
        have cq := box_cell H.bb 0
        have fq := box_fr H.bb
        go_simp
        refine hK _ _ ?_
        clear hK K cq fq
        have H := H.setB (.slice (some ⟨gb, 0, none⟩) (kb.length + 1) cpb)
        refine wpAnyIn_done (by kernel_rfl) ?_ _
        exact ⟨rfl, _, _, _, _, _, _, _, rfl, _, H⟩
      have c0 := box_cell H.bx 0
      have c1 := box_cell H.bx 1
      have c2 := box_cell H.bx 2
      have c3 := box_cell H.bx 3
      have c4 := box_cell H.bx 4
      go_simp
      refine hK _ _ ?_
      clear hK K c0 c1 c2 c3 c4
      refine wpAnyIn_ready (rs := [0, 4]) (by kernel_rfl) (by simp) (AllReadyIn.cons rfl (fun K hK => ?_) (AllReadyIn.cons rfl (fun K hK => ?_) AllReadyIn.nil))
      · have cq := box_cell H.ba 0
        go_simp
        refine hK _ _ ?_
        clear hK K cq
        refine wpAnyIn_ready (rs := [3, 4]) (by kernel_rfl) (by simp) (AllReadyIn.cons rfl (fun K hK => ?_) (AllReadyIn.cons rfl (fun K hK => ?_) AllReadyIn.nil))
        · refine step_liesIn (by rfl) _ _ 54 (by rfl) Tryz.underlying54 hi hz0 hz1 hz2 rfl (by decide) (by rfl) H.ra [str k] (by rfl) TA (by rfl) (by simp [Value.oneCell']) lena1 lena2 H.base ?_
          intro ga cpa W' hr hg hl
          refine hK _ _ ?_
          clear hK K
          have H := H.appA hr hg hl
          clear hr hg hl TA
          go_simp
          refine wpAnyIn_ready (rs := [4, 6]) (by kernel_rfl) (by simp) (AllReadyIn.cons rfl (fun K hK => ?_) (AllReadyIn.cons rfl (fun K hK => ?_) AllReadyIn.nil))
          · have cq := box_cell H.bb 0
            go_simp
            refine hK _ _ ?_
            clear hK K cq
            refine wpAnyIn_ready (rs := [6]) (by kernel_rfl) (by simp) (AllReadyIn.cons rfl (fun K hK => ?_) AllReadyIn.nil)
            go_simp
            refine (callsIn_wide.2 (plain_any x hsx.out _ _ _ H.rx)).mono ?_
            rintro e W2 ⟨us, rfl, hy, hb2⟩
            obtain ⟨ya, yl, yc, yb, ym, yd, rfl, _, _⟩ := id hy.open
            refine hK _ _ ?_
            clear hK K
            have SA := fun g hg => (H.ra.lt g hg).2
            have SB := fun g hg => (H.rb.lt g hg).2
            have S9 := H.base
            have H := H.up hb2
            clear hb2
            go_simp
            refine wpAnyIn_ready (rs := [7]) (by kernel_rfl) (by simp) (AllReadyIn.cons rfl (fun K hK => ?_) AllReadyIn.nil)
            go_simp
            refine hK _ _ ?_
            clear hK K
            obtain ⟨H, TB⟩ := H.temp [.int .i64 x.kind, .int .i64 x.n, str x.s, .slice ya yl yc, .slice yb ym yd] 35
            have hy := temp_rd hy (.cells ([.int .i64 x.kind, .int .i64 x.n, str x.s, .slice ya yl yc, .slice yb ym yd] : List Value).toArray 35)
            refine wpAnyIn_ready (rs := [8]) (by kernel_rfl) (by simp) (AllReadyIn.cons rfl (fun K hK => ?_) AllReadyIn.nil)
            refine step_liesIn (by rfl) _ _ 32 (by rfl) Tryz.underlying32 gi gz0 gz1 gz2 rfl (by decide) (by rfl) H.rb [.int .i64 x.kind, .int .i64 x.n, str x.s, .slice ya yl yc, .slice yb ym yd] (by rfl) TB (by rfl) (by simp [Value.oneCell']) lenb1 lenb2 H.base ?_
            intro gb cpb W' hr hg hl
            refine hK _ _ ?_
            clear hK K
            have H := H.appB hr hg hl hy S9 SA SB
            clear hr hg hl TB
            go_simp
            refine wpAnyIn_ready (rs := [9]) (by kernel_rfl) (by simp) (AllReadyIn.cons rfl (fun K hK => ?_) AllReadyIn.nil)
            have cq := box_cell H.ba 0
            have fq := box_fr H.ba
            go_simp
            refine hK _ _ ?_
            clear hK K cq fq
            have H := H.setA (.slice (some ⟨ga, 0, none⟩) (ka.length + 1) cpa)
            refine wpAnyIn_ready (rs := [10]) (by kernel_rfl) (by simp) (AllReadyIn.cons rfl (fun K hK => ?_) AllReadyIn.nil)
            have cq := box_cell H.bb 0
            have fq := box_fr H.bb
            go_simp
            refine hK _ _ ?_
            clear hK K cq fq
            have H := H.setB (.slice (some ⟨gb, 0, none⟩) (kb.length + 1) cpb)
            refine wpAnyIn_done (by kernel_rfl) ?_ _
            exact ⟨rfl, _, _, _, _, _, _, _, rfl, _, H⟩
          go_simp
          refine (callsIn_wide.2 (plain_any x hsx.out _ _ _ H.rx)).mono ?_
          rintro e W2 ⟨us, rfl, hy, hb2⟩
          obtain ⟨ya, yl, yc, yb, ym, yd, rfl, _, _⟩ := id hy.open
          refine hK _ _ ?_
          clear hK K
          have SA := fun g hg => (H.ra.lt g hg).2
          have SB := fun g hg => (H.rb.lt g hg).2
          have S9 := H.base
          have H := H.up hb2
          clear hb2
          go_simp
          refine wpAnyIn_ready (rs := [4, 7]) (by kernel_rfl) (by simp) (AllReadyIn.cons rfl (fun K hK => ?_) (AllReadyIn.cons rfl (fun K hK => ?_) AllReadyIn.nil))
          · have cq := box_cell H.bb 0
            go_simp
            refine hK _ _ ?_
            clear hK K cq
            refine wpAnyIn_ready (rs := [7]) (by kernel_rfl) (by simp) (AllReadyIn.cons rfl (fun K hK => ?_) AllReadyIn.nil)
            go_simp
            refine hK _ _ ?_
            clear hK K
            obtain ⟨H, TB⟩ := H.temp [.int .i64 x.kind, .int .i64 x.n, str x.s, .slice ya yl yc, .slice yb ym yd] 35
            have hy := temp_rd hy (.cells ([.int .i64 x.kind, .int .i64 x.n, str x.s, .slice ya yl yc, .slice yb ym yd] : List Value).toArray 35)
            refine wpAnyIn_ready (rs := [8]) (by kernel_rfl) (by simp) (AllReadyIn.cons rfl (fun K hK => ?_) AllReadyIn.nil)
            refine step_liesIn (by rfl) _ _ 32 (by rfl) Tryz.underlying32 gi gz0 gz1 gz2 rfl (by decide) (by rfl) H.rb [.int .i64 x.kind, .int .i64 x.n, str x.s, .slice ya yl yc, .slice yb ym yd] (by rfl) TB (by rfl) (by simp [Value.oneCell']) lenb1 lenb2 H.base ?_
            intro gb cpb W' hr hg hl
            refine hK _ _ ?_
            clear hK K
            have H := H.appB hr hg hl hy S9 SA SB
            clear hr hg hl TB
            go_simp
            refine wpAnyIn_ready (rs := [9]) (by kernel_rfl) (by simp) (AllReadyIn.cons rfl (fun K hK => ?_) AllReadyIn.nil)
            have cq := box_cell H.ba 0
            have fq := box_fr H.ba
            go_simp
            refine hK _ _ ?_
            clear hK K cq fq
            have H := H.setA (.slice (some ⟨ga, 0, none⟩) (ka.length + 1) cpa)
            refine wpAnyIn_ready (rs := [10]) (by kernel_rfl) (by simp) (AllReadyIn.cons rfl (fun K hK => ?_) AllReadyIn.nil)
            have cq := box_cell H.bb 0
            have fq := box_fr H.bb
            go_simp
            refine hK _ _ ?_
            clear hK K cq fq
            have H := H.setB (.slice (some ⟨gb, 0, none⟩) (kb.length + 1) cpb)
            refine wpAnyIn_done (by kernel_rfl) ?_ _
            exact ⟨rfl, _, _, _, _, _, _, _, rfl, _, H⟩
          go_simp
          refine hK _ _ ?_
          clear hK K
          obtain ⟨H, TB⟩ := H.temp [.int .i64 x.kind, .int .i64 x.n, str x.s, .slice ya yl yc, .slice yb ym yd] 35
          have hy := temp_rd hy (.cells ([.int .i64 x.kind, .int .i64 x.n, str x.s, .slice ya yl yc, .slice yb ym yd] : List Value).toArray 35)
          refine wpAnyIn_ready (rs := [4]) (by kernel_rfl) (by simp) (AllReadyIn.cons rfl (fun K hK => ?_) AllReadyIn.nil)
          have cq := box_cell H.bb 0
          go_simp
          refine hK _ _ ?_
          clear hK K cq
          refine wpAnyIn_ready (rs := [8]) (by kernel_rfl) (by simp) (AllReadyIn.cons rfl (fun K hK => ?_) AllReadyIn.nil)
          refine step_liesIn (by rfl) _ _ 32 (by rfl) Tryz.underlying32 gi gz0 gz1 gz2 rfl (by decide) (by rfl) H.rb [.int .i64 x.kind, .int .i64 x.n, str x.s, .slice ya yl yc, .slice yb ym yd] (by rfl) TB (by rfl) (by simp [Value.oneCell']) lenb1 lenb2 H.base ?_
          intro gb cpb W' hr hg hl
          refine hK _ _ ?_
          clear hK K
          have H := H.appB hr hg hl hy S9 SA SB
          clear hr hg hl TB
          go_simp
          refine wpAnyIn_ready (rs := [9]) (by kernel_rfl) (by simp) (AllReadyIn.cons rfl (fun K hK => ?_) AllReadyIn.nil)
          have cq := box_cell H.ba 0
          have fq := box_fr H.ba
          go_simp
          refine hK _ _ ?_
          clear hK K cq fq
          have H := H.setA (.slice (some ⟨ga, 0, none⟩) (ka.length + 1) cpa)
          refine wpAnyIn_ready (rs := [10]) (by kernel_rfl) (by simp) (AllReadyIn.cons rfl (fun K hK => ?_) AllReadyIn.nil)
          have cq := box_cell H.bb 0
          have fq := box_fr H.bb
          go_simp
          refine hK _ _ ?_
          clear hK K cq fq
          have H := H.setB (.slice (some ⟨gb, 0, none⟩) (kb.length + 1) cpb)
          refine wpAnyIn_done (by kernel_rfl) ?_ _
          exact ⟨rfl, _, _, _, _, _, _, _, rfl, _, H⟩
        have cq := box_cell H.bb 0
        go_simp
        refine hK _ _ ?_
        clear hK K cq
        refine wpAnyIn_ready (rs := [3]) (by kernel_rfl) (by simp) (AllReadyIn.cons rfl (fun K hK => ?_) AllReadyIn.nil)
        refine step_liesIn (by rfl) _ _ 54 (by rfl) Tryz.underlying54 hi hz0 hz1 hz2 rfl (by decide) (by rfl) H.ra [str k] (by rfl) TA (by rfl) (by simp [Value.oneCell']) lena1 lena2 H.base ?_
        intro ga cpa W' hr hg hl
        refine hK _ _ ?_
        clear hK K
        have H := H.appA hr hg hl
        clear hr hg hl TA
        go_simp
        refine wpAnyIn_ready (rs := [6]) (by kernel_rfl) (by simp) (AllReadyIn.cons rfl (fun K hK => ?_) AllReadyIn.nil)
        go_simp
        refine (callsIn_wide.2 (plain_any x hsx.out _ _ _ H.rx)).mono ?_
        rintro e W2 ⟨us, rfl, hy, hb2⟩
        obtain ⟨ya, yl, yc, yb, ym, yd, rfl, _, _⟩ := id hy.open
        refine hK _ _ ?_
        clear hK K
        have SA := fun g hg => (H.ra.lt g hg).2
        have SB := fun g hg => (H.rb.lt g hg).2
        have S9 := H.base
        have H := H.up hb2
        clear hb2
        go_simp
        refine wpAnyIn_ready (rs := [7]) (by kernel_rfl) (by simp) (AllReadyIn.cons rfl (fun K hK => ?_) AllReadyIn.nil)
        go_simp
        refine hK _ _ ?_
        clear hK K
        obtain ⟨H, TB⟩ := H.temp [.int .i64 x.kind, .int .i64 x.n, str x.s, .slice ya yl yc, .slice yb ym yd] 35
        have hy := temp_rd hy (.cells ([.int .i64 x.kind, .int .i64 x.n, str x.s, .slice ya yl yc, .slice yb ym yd] : List Value).toArray 35)
        refine wpAnyIn_ready (rs := [8]) (by kernel_rfl) (by simp) (AllReadyIn.cons rfl (fun K hK => ?_) AllReadyIn.nil)
        refine step_liesIn (by rfl) _ _ 32 (by rfl) Tryz.underlying32 gi gz0 gz1 gz2 rfl (by decide) (by rfl) H.rb [.int .i64 x.kind, .int .i64 x.n, str x.s, .slice ya yl yc, .slice yb ym yd] (by rfl) TB (by rfl) (by simp [Value.oneCell']) lenb1 lenb2 H.base ?_
        intro gb cpb W' hr hg hl
        refine hK _ _ ?_
        clear hK K
        have H := H.appB hr hg hl hy S9 SA SB
        clear hr hg hl TB
        go_simp
        refine wpAnyIn_ready (rs := [9]) (by kernel_rfl) (by simp) (AllReadyIn.cons rfl (fun K hK => ?_) AllReadyIn.nil)
        have cq := box_cell H.ba 0
        have fq := box_fr H.ba
        go_simp
        refine hK _ _ ?_
        clear hK K cq fq
        have H := H.setA (.slice (some ⟨ga, 0, none⟩) (ka.length + 1) cpa)
        refine wpAnyIn_ready (rs := [10]) (by kernel_rfl) (by simp) (AllReadyIn.cons rfl (fun K hK => ?_) AllReadyIn.nil)
        have cq := box_cell H.bb 0
        have fq := box_fr H.bb
        go_simp
        refine hK _ _ ?_
        clear hK K cq fq
        have H := H.setB (.slice (some ⟨gb, 0, none⟩) (kb.length + 1) cpb)
        refine wpAnyIn_done (by kernel_rfl) ?_ _
        exact ⟨rfl, _, _, _, _, _, _, _, rfl, _, H⟩
      have cq := box_cell H.bb 0
      go_simp
      refine hK _ _ ?_
      clear hK K cq
      refine wpAnyIn_ready (rs := [0]) (by kernel_rfl) (by simp) (AllReadyIn.cons rfl (fun K hK => ?_) AllReadyIn.nil)
      have cq := box_cell H.ba 0
      go_simp
      refine hK _ _ ?_
      clear hK K cq
      refine wpAnyIn_ready (rs := [3]) (by kernel_rfl) (by simp) (AllReadyIn.cons rfl (fun K hK => ?_) AllReadyIn.nil)
      refine step_liesIn (by rfl) _ _ 54 (by rfl) Tryz.underlying54 hi hz0 hz1 hz2 rfl (by decide) (by rfl) H.ra [str k] (by rfl) TA (by rfl) (by simp [Value.oneCell']) lena1 lena2 H.base ?_
      intro ga cpa W' hr hg hl
      refine hK _ _ ?_
      clear hK K
      have H := H.appA hr hg hl
      clear hr hg hl TA
      go_simp
      refine wpAnyIn_ready (rs := [6]) (by kernel_rfl) (by simp) (AllReadyIn.cons rfl (fun K hK => ?_) AllReadyIn.nil)
      go_simp
      refine (callsIn_wide.2 (plain_any x hsx.out _ _ _ H.rx)).mono ?_
      rintro e W2 ⟨us, rfl, hy, hb2⟩
      obtain ⟨ya, yl, yc, yb, ym, yd, rfl, _, _⟩ := id hy.open
      refine hK _ _ ?_
      clear hK K
      have SA := fun g hg => (H.ra.lt g hg).2
      have SB := fun g hg => (H.rb.lt g hg).2
      have S9 := H.base
      have H := H.up hb2
      clear hb2
      go_simp
      refine wpAnyIn_ready (rs := [7]) (by kernel_rfl) (by simp) (AllReadyIn.cons rfl (fun K hK => ?_) AllReadyIn.nil)
      go_simp
      refine hK _ _ ?_
      clear hK K
      obtain ⟨H, TB⟩ := H.temp [.int .i64 x.kind, .int .i64 x.n, str x.s, .slice ya yl yc, .slice yb ym yd] 35
      have hy := temp_rd hy (.cells ([.int .i64 x.kind, .int .i64 x.n, str x.s, .slice ya yl yc, .slice yb ym yd] : List Value).toArray 35)
      refine wpAnyIn_ready (rs := [8]) (by kernel_rfl) (by simp) (AllReadyIn.cons rfl (fun K hK => ?_) AllReadyIn.nil)
      refine step_liesIn (by rfl) _ _ 32 (by rfl) Tryz.underlying32 gi gz0 gz1 gz2 rfl (by decide) (by rfl) H.rb [.int .i64 x.kind, .int .i64 x.n, str x.s, .slice ya yl yc, .slice yb ym yd] (by rfl) TB (by rfl) (by simp [Value.oneCell']) lenb1 lenb2 H.base ?_
      intro gb cpb W' hr hg hl
      refine hK _ _ ?_
      clear hK K
      have H := H.appB hr hg hl hy S9 SA SB
      clear hr hg hl TB
      go_simp
      refine wpAnyIn_ready (rs := [9]) (by kernel_rfl) (by simp) (AllReadyIn.cons rfl (fun K hK => ?_) AllReadyIn.nil)
      have cq := box_cell H.ba 0
      have fq := box_fr H.ba
      go_simp
      refine hK _ _ ?_
      clear hK K cq fq
      have H := H.setA (.slice (some ⟨ga, 0, none⟩) (ka.length + 1) cpa)
      refine wpAnyIn_ready (rs := [10]) (by kernel_rfl) (by simp) (AllReadyIn.cons rfl (fun K hK => ?_) AllReadyIn.nil)
      have cq := box_cell H.bb 0
      have fq := box_fr H.bb
      go_simp
      refine hK _ _ ?_
      clear hK K cq fq
      have H := H.setB (.slice (some ⟨gb, 0, none⟩) (kb.length + 1) cpb)
      refine wpAnyIn_done (by kernel_rfl) ?_ _
      exact ⟨rfl, _, _, _, _, _, _, _, rfl, _, H⟩
    · have cq := box_cell H.bb 0
      go_simp
      refine hK _ _ ?_
      clear hK K cq
      refine wpAnyIn_ready (rs := [0, 2, 5]) (by kernel_rfl) (by simp) (AllReadyIn.cons rfl (fun K hK => ?_) (AllReadyIn.cons rfl (fun K hK => ?_) (AllReadyIn.cons rfl (fun K hK => ?_) AllReadyIn.nil)))
      · have cq := box_cell H.ba 0
        go_simp
        refine hK _ _ ?_
        clear hK K cq
        refine wpAnyIn_ready (rs := [2, 5]) (by kernel_rfl) (by simp) (AllReadyIn.cons rfl (fun K hK => ?_) (AllReadyIn.cons rfl (fun K hK => ?_) AllReadyIn.nil))
        · go_simp
          refine hK _ _ ?_
          clear hK K
          obtain ⟨H, TA⟩ := H.temp [str k] 9
          refine wpAnyIn_ready (rs := [3, 5]) (by kernel_rfl) (by simp) (AllReadyIn.cons rfl (fun K hK => ?_) (AllReadyIn.cons rfl (fun K hK => ?_) AllReadyIn.nil))
          · refine step_liesIn (by rfl) _ _ 54 (by rfl) Tryz.underlying54 hi hz0 hz1 hz2 rfl (by decide) (by rfl) H.ra [str k] (by rfl) TA (by rfl) (by simp [Value.oneCell']) lena1 lena2 H.base ?_
            intro ga cpa W' hr hg hl
            refine hK _ _ ?_
            clear hK K
            have H := H.appA hr hg hl
            clear hr hg hl TA
            go_simp
            refine wpAnyIn_ready (rs := [5]) (by kernel_rfl) (by simp) (AllReadyIn.cons rfl (fun K hK => ?_) AllReadyIn.nil)
            have c0 := box_cell H.bx 0
            have c1 := box_cell H.bx 1
            have c2 := box_cell H.bx 2
            have c3 := box_cell H.bx 3
            have c4 := box_cell H.bx 4
            go_simp
            refine hK _ _ ?_
            clear hK K c0 c1 c2 c3 c4
            refine wpAnyIn_ready (rs := [6]) (by kernel_rfl) (by simp) (AllReadyIn.cons rfl (fun K hK => ?_) AllReadyIn.nil)
            go_simp
            refine (callsIn_wide.2 (plain_any x hsx.out _ _ _ H.rx)).mono ?_
            rintro e W2 ⟨us, rfl, hy, hb2⟩
            obtain ⟨ya, yl, yc, yb, ym, yd, rfl, _, _⟩ := id hy.open
            refine hK _ _ ?_
            clear hK K
            have SA := fun g hg => (H.ra.lt g hg).2
            have SB := fun g hg => (H.rb.lt g hg).2
            have S9 := H.base
            have H := H.up hb2
            clear hb2
            go_simp
            refine wpAnyIn_ready (rs := [7]) (by kernel_rfl) (by simp) (AllReadyIn.cons rfl (fun K hK => ?_) AllReadyIn.nil)
            go_simp
            refine hK _ _ ?_
            clear hK K
            obtain ⟨H, TB⟩ := H.temp [.int .i64 x.kind, .int .i64 x.n, str x.s, .slice ya yl yc, .slice yb ym yd] 35
            have hy := temp_rd hy (.cells ([.int .i64 x.kind, .int .i64 x.n, str x.s, .slice ya yl yc, .slice yb ym yd] : List Value).toArray 35)
            refine wpAnyIn_ready (rs := [8]) (by kernel_rfl) (by simp) (AllReadyIn.cons rfl (fun K hK => ?_) AllReadyIn.nil)
            refine step_liesIn (by rfl) _ _ 32 (by rfl) Tryz.underlying32 gi gz0 gz1 gz2 rfl (by decide) (by rfl) H.rb [.int .i64 x.kind, .int .i64 x.n, str x.s, .slice ya yl yc, .slice yb ym yd] (by rfl) TB (by rfl) (by simp [Value.oneCell']) lenb1 lenb2 H.base ?_
            intro gb cpb W' hr hg hl
            refine hK _ _ ?_
            clear hK K
            have H := H.appB hr hg hl hy S9 SA SB
            clear hr hg hl TB
            go_simp
            refine wpAnyIn_ready (rs := [9]) (by kernel_rfl) (by simp) (AllReadyIn.cons rfl (fun K hK => ?_) AllReadyIn.nil)
            have cq := box_cell H.ba 0
            have fq := box_fr H.ba
            go_simp
            refine hK _ _ ?_
            clear hK K cq fq
            have H := H.setA (.slice (some ⟨ga, 0, none⟩) (ka.length + 1) cpa)
            refine wpAnyIn_ready (rs := [10]) (by kernel_rfl) (by simp) (AllReadyIn.cons rfl (fun K hK => ?_) AllReadyIn.nil)
            have cq := box_cell H.bb 0
            have fq := box_fr H.bb
            go_simp
            refine hK _ _ ?_
            clear hK K cq fq
            have H := H.setB (.slice (some ⟨gb, 0, none⟩) (kb.length + 1) cpb)
            refine wpAnyIn_done (by kernel_rfl) ?_ _
            exact ⟨rfl, _, _, _, _, _, _, _, rfl, _, H⟩
          have c0 := box_cell H.bx 0
          have c1 := box_cell H.bx 1
          have c2 := box_cell H.bx 2
          have c3 := box_cell H.bx 3
          have c4 := box_cell H.bx 4
          go_simp
          refine hK _ _ ?_
          clear hK K c0 c1 c2 c3 c4
          refine wpAnyIn_ready (rs := [3]) (by kernel_rfl) (by simp) (AllReadyIn.cons rfl (fun K hK => ?_) AllReadyIn.nil)
          refine step_liesIn (by rfl) _ _ 54 (by rfl) Tryz.underlying54 hi hz0 hz1 hz2 rfl (by decide) (by rfl) H.ra [str k] (by rfl) TA (by rfl) (by simp [Value.oneCell']) lena1 lena2 H.base ?_
          intro ga cpa W' hr hg hl
          refine hK _ _ ?_
          clear hK K
          have H := H.appA hr hg hl
          clear hr hg hl TA
          go_simp
          refine wpAnyIn_ready (rs := [6]) (by kernel_rfl) (by simp) (AllReadyIn.cons rfl (fun K hK => ?_) AllReadyIn.nil)
          go_simp
          refine (callsIn_wide.2 (plain_any x hsx.out _ _ _ H.rx)).mono ?_
          rintro e W2 ⟨us, rfl, hy, hb2⟩
          obtain ⟨ya, yl, yc, yb, ym, yd, rfl, _, _⟩ := id hy.open
          refine hK _ _ ?_
          clear hK K
          have SA := fun g hg => (H.ra.lt g hg).2
          have SB := fun g hg => (H.rb.lt g hg).2
          have S9 := H.base
          have H := H.up hb2
          clear hb2
          go_simp
          refine wpAnyIn_ready (rs := [7]) (by kernel_rfl) (by simp) (AllReadyIn.cons rfl (fun K hK => ?_) AllReadyIn.nil)
          go_simp
          refine hK _ _ ?_
          clear hK K
          obtain ⟨H, TB⟩ := H.temp [.int .i64 x.kind, .int .i64 x.n, str x.s, .slice ya yl yc, .slice yb ym yd] 35
          have hy := temp_rd hy (.cells ([.int .i64 x.kind, .int .i64 x.n, str x.s, .slice ya yl yc, .slice yb ym yd] : List Value).toArray 35)
          refine wpAnyIn_ready (rs := [8]) (by kernel_rfl) (by simp) (AllReadyIn.cons rfl (fun K hK => ?_) AllReadyIn.nil)
          refine step_liesIn (by rfl) _ _ 32 (by rfl) Tryz.underlying32 gi gz0 gz1 gz2 rfl (by decide) (by rfl) H.rb [.int .i64 x.kind, .int .i64 x.n, str x.s, .slice ya yl yc, .slice yb ym yd] (by rfl) TB (by rfl) (by simp [Value.oneCell']) lenb1 lenb2 H.base ?_
          intro gb cpb W' hr hg hl
          refine hK _ _ ?_
          clear hK K
          have H := H.appB hr hg hl hy S9 SA SB
          clear hr hg hl TB
          go_simp
          refine wpAnyIn_ready (rs := [9]) (by kernel_rfl) (by simp) (AllReadyIn.cons rfl (fun K hK => ?_) AllReadyIn.nil)
          have cq := box_cell H.ba 0
          have fq := box_fr H.ba
          go_simp
          refine hK _ _ ?_
          clear hK K cq fq
          have H := H.setA (.slice (some ⟨ga, 0, none⟩) (ka.length + 1) cpa)
          refine wpAnyIn_ready (rs := [10]) (by kernel_rfl) (by simp) (AllReadyIn.cons rfl (fun K hK => ?_) AllReadyIn.nil)
          have cq := box_cell H.bb 0
          have fq := box_fr H.bb
          go_simp
          refine hK _ _ ?_
          clear hK K cq fq
          have H := H.setB (.slice (some ⟨gb, 0, none⟩) (kb.length + 1) cpb)
          refine wpAnyIn_done (by kernel_rfl) ?_ _
          exact ⟨rfl, _, _, _, _, _, _, _, rfl, _, H⟩
        have c0 := box_cell H.bx 0
        have c1 := box_cell H.bx 1
        have c2 := box_cell H.bx 2
        have c3 := box_cell H.bx 3
        have c4 := box_cell H.bx 4
        go_simp
        refine hK _ _ ?_
        clear hK K c0 c1 c2 c3 c4
        refine wpAnyIn_ready (rs := [2]) (by kernel_rfl) (by simp) (AllReadyIn.cons rfl (fun K hK => ?_) AllReadyIn.nil)
        go_simp
        refine hK _ _ ?_
        clear hK K
        obtain ⟨H, TA⟩ := H.temp [str k] 9
        refine wpAnyIn_ready (rs := [3]) (by kernel_rfl) (by simp) (AllReadyIn.cons rfl (fun K hK => ?_) AllReadyIn.nil)
        refine step_liesIn (by rfl) _ _ 54 (by rfl) Tryz.underlying54 hi hz0 hz1 hz2 rfl (by decide) (by rfl) H.ra [str k] (by rfl) TA (by rfl) (by simp [Value.oneCell']) lena1 lena2 H.base ?_
        intro ga cpa W' hr hg hl
        refine hK _ _ ?_
        clear hK K
        have H := H.appA hr hg hl
        clear hr hg hl TA
        go_simp
        refine wpAnyIn_ready (rs := [6]) (by kernel_rfl) (by simp) (AllReadyIn.cons rfl (fun K hK => ?_) AllReadyIn.nil)
        go_simp
        refine (callsIn_wide.2 (plain_any x hsx.out _ _ _ H.rx)).mono ?_
        rintro e W2 ⟨us, rfl, hy, hb2⟩
        obtain ⟨ya, yl, yc, yb, ym, yd, rfl, _, _⟩ := id hy.open
        refine hK _ _ ?_
        clear hK K
        have SA := fun g hg => (H.ra.lt g hg).2
        have SB := fun g hg => (H.rb.lt g hg).2
        have S9 := H.base
        have H := H.up hb2
        clear hb2
        go_simp
        refine wpAnyIn_ready (rs := [7]) (by kernel_rfl) (by simp) (AllReadyIn.cons rfl (fun K hK => ?_) AllReadyIn.nil)
        go_simp
        refine hK _ _ ?_
        clear hK K
        obtain ⟨H, TB⟩ := H.temp [.int .i64 x.kind, .int .i64 x.n, str x.s, .slice ya yl yc, .slice yb ym yd] 35
        have hy := temp_rd hy (.cells ([.int .i64 x.kind, .int .i64 x.n, str x.s, .slice ya yl yc, .slice yb ym yd] : List Value).toArray 35)
        refine wpAnyIn_ready (rs := [8]) (by kernel_rfl) (by simp) (AllReadyIn.cons rfl (fun K hK => ?_) AllReadyIn.nil)
        refine step_liesIn (by rfl) _ _ 32 (by rfl) Tryz.underlying32 gi gz0 gz1 gz2 rfl (by decide) (by rfl) H.rb [.int .i64 x.kind, .int .i64 x.n, str x.s, .slice ya yl yc, .slice yb ym yd] (by rfl) TB (by rfl) (by simp [Value.oneCell']) lenb1 lenb2 H.base ?_
        intro gb cpb W' hr hg hl
        refine hK _ _ ?_
        clear hK K
        have H := H.appB hr hg hl hy S9 SA SB
        clear hr hg hl TB
        go_simp
        refine wpAnyIn_ready (rs := [9]) (by kernel_rfl) (by simp) (AllReadyIn.cons rfl (fun K hK => ?_) AllReadyIn.nil)
        have cq := box_cell H.ba 0
        have fq := box_fr H.ba
        go_simp
        refine hK _ _ ?_
        clear hK K cq fq
        have H := H.setA (.slice (some ⟨ga, 0, none⟩) (ka.length + 1) cpa)
        refine wpAnyIn_ready (rs := [10]) (by kernel_rfl) (by simp) (AllReadyIn.cons rfl (fun K hK => ?_) AllReadyIn.nil)
        have cq := box_cell H.bb 0
        have fq := box_fr H.bb
        go_simp
        refine hK _ _ ?_
        clear hK K cq fq
        have H := H.setB (.slice (some ⟨gb, 0, none⟩) (kb.length + 1) cpb)
        refine wpAnyIn_done (by kernel_rfl) ?_ _
        exact ⟨rfl, _, _, _, _, _, _, _, rfl, _, H⟩
      · go_simp
        refine hK _ _ ?_
        clear hK K
        obtain ⟨H, TA⟩ := H.temp [str k] 9
        refine wpAnyIn_ready (rs := [0, 5]) (by kernel_rfl) (by simp) (AllReadyIn.cons rfl (fun K hK => ?_) (AllReadyIn.cons rfl (fun K hK => ?_) AllReadyIn.nil))
        · have cq := box_cell H.ba 0
          go_simp
          refine hK _ _ ?_
          clear hK K cq
          refine wpAnyIn_ready (rs := [3, 5]) (by kernel_rfl) (by simp) (AllReadyIn.cons rfl (fun K hK => ?_) (AllReadyIn.cons rfl (fun K hK => ?_) AllReadyIn.nil))
          · refine step_liesIn (by rfl) _ _ 54 (by rfl) Tryz.underlying54 hi hz0 hz1 hz2 rfl (by decide) (by rfl) H.ra [str k] (by rfl) TA (by rfl) (by simp [Value.oneCell']) lena1 lena2 H.base ?_
            intro ga cpa W' hr hg hl
            refine hK _ _ ?_
            clear hK K
            have H := H.appA hr hg hl
            clear hr hg hl TA
            go_simp
            refine wpAnyIn_ready (rs := [5]) (by kernel_rfl) (by simp) (AllReadyIn.cons rfl (fun K hK => ?_) AllReadyIn.nil)
            have c0 := box_cell H.bx 0
            have c1 := box_cell H.bx 1
            have c2 := box_cell H.bx 2
            have c3 := box_cell H.bx 3
            have c4 := box_cell H.bx 4
            go_simp
            refine hK _ _ ?_
            clear hK K c0 c1 c2 c3 c4
            refine wpAnyIn_ready (rs := [6]) (by kernel_rfl) (by simp) (AllReadyIn.cons rfl (fun K hK => ?_) AllReadyIn.nil)
            go_simp
            refine (callsIn_wide.2 (plain_any x hsx.out _ _ _ H.rx)).mono ?_
            rintro e W2 ⟨us, rfl, hy, hb2⟩
            obtain ⟨ya, yl, yc, yb, ym, yd, rfl, _, _⟩ := id hy.open
            refine hK _ _ ?_
            clear hK K
            have SA := fun g hg => (H.ra.lt g hg).2
            have SB := fun g hg => (H.rb.lt g hg).2
            have S9 := H.base
            have H := H.up hb2
            clear hb2
            go_simp
            refine wpAnyIn_ready (rs := [7]) (by kernel_rfl) (by simp) (AllReadyIn.cons rfl (fun K hK => ?_) AllReadyIn.nil)
            go_simp
            refine hK _ _ ?_
            clear hK K
            obtain ⟨H, TB⟩ := H.temp [.int .i64 x.kind, .int .i64 x.n, str x.s, .slice ya yl yc, .slice yb ym yd] 35
            have hy := temp_rd hy (.cells ([.int .i64 x.kind, .int .i64 x.n, str x.s, .slice ya yl yc, .slice yb ym yd] : List Value).toArray 35)
            refine wpAnyIn_ready (rs := [8]) (by kernel_rfl) (by simp) (AllReadyIn.cons rfl (fun K hK => ?_) AllReadyIn.nil)
            refine step_liesIn (by rfl) _ _ 32 (by rfl) Tryz.underlying32 gi gz0 gz1 gz2 rfl (by decide) (by rfl) H.rb [.int .i64 x.kind, .int .i64 x.n, str x.s, .slice ya yl yc, .slice yb ym yd] (by rfl) TB (by rfl) (by simp [Value.oneCell']) lenb1 lenb2 H.base ?_
            intro gb cpb W' hr hg hl
            refine hK _ _ ?_
            clear hK K
            have H := H.appB hr hg hl hy S9 SA SB
            clear hr hg hl TB
            go_simp
            refine wpAnyIn_ready (rs := [9]) (by kernel_rfl) (by simp) (AllReadyIn.cons rfl (fun K hK => ?_) AllReadyIn.nil)
            have cq := box_cell H.ba 0
            have fq := box_fr H.ba
            go_simp
            refine hK _ _ ?_
            clear hK K cq fq
            have H := H.setA (.slice (some ⟨ga, 0, none⟩) (ka.length + 1) cpa)
            refine wpAnyIn_ready (rs := [10]) (by kernel_rfl) (by simp) (AllReadyIn.cons rfl (fun K hK => ?_) AllReadyIn.nil)
            have cq := box_cell H.bb 0
            have fq := box_fr H.bb
            go_simp
            refine hK _ _ ?_
            clear hK K cq fq
            have H := H.setB (.slice (some ⟨gb, 0, none⟩) (kb.length + 1) cpb)
            refine wpAnyIn_done (by kernel_rfl) ?_ _
            exact ⟨rfl, _, _, _, _, _, _, _, rfl, _, H⟩
          have c0 := box_cell H.bx 0
          have c1 := box_cell H.bx 1
          have c2 := box_cell H.bx 2
          have c3 := box_cell H.bx 3
          have c4 := box_cell H.bx 4
          go_simp
          refine hK _ _ ?_
          clear hK K c0 c1 c2 c3 c4
          refine wpAnyIn_ready (rs := [3]) (by kernel_rfl) (by simp) (AllReadyIn.cons rfl (fun K hK => ?_) AllReadyIn.nil)
          refine step_liesIn (by rfl) _ _ 54 (by rfl) Tryz.underlying54 hi hz0 hz1 hz2 rfl (by decide) (by rfl) H.ra [str k] (by rfl) TA (by rfl) (by simp [Value.oneCell']) lena1 lena2 H.base ?_
          intro ga cpa W' hr hg hl
          refine hK _ _ ?_
          clear hK K
          have H := H.appA hr hg hl
          clear hr hg hl TA
          go_simp
          refine wpAnyIn_ready (rs := [6]) (by kernel_rfl) (by simp) (AllReadyIn.cons rfl (fun K hK => ?_) AllReadyIn.nil)
          go_simp
          refine (callsIn_wide.2 (plain_any x hsx.out _ _ _ H.rx)).mono ?_
          rintro e W2 ⟨us, rfl, hy, hb2⟩
          obtain ⟨ya, yl, yc, yb, ym, yd, rfl, _, _⟩ := id hy.open
          refine hK _ _ ?_
          clear hK K
          have SA := fun g hg => (H.ra.lt g hg).2
          have SB := fun g hg => (H.rb.lt g hg).2
          have S9 := H.base
          have H := H.up hb2
          clear hb2
          go_simp
          refine wpAnyIn_ready (rs := [7]) (by kernel_rfl) (by simp) (AllReadyIn.cons rfl (fun K hK => ?_) AllReadyIn.nil)
          go_simp
          refine hK _ _ ?_
          clear hK K
          obtain ⟨H, TB⟩ := H.temp [.int .i64 x.kind, .int .i64 x.n, str x.s, .slice ya yl yc, .slice yb ym yd] 35
          have hy := temp_rd hy (.cells ([.int .i64 x.kind, .int .i64 x.n, str x.s, .slice ya yl yc, .slice yb ym yd] : List Value).toArray 35)
          refine wpAnyIn_ready (rs := [8]) (by kernel_rfl) (by simp) (AllReadyIn.cons rfl (fun K hK => ?_) AllReadyIn.nil)
          refine step_liesIn (by rfl) _ _ 32 (by rfl) Tryz.underlying32 gi gz0 gz1 gz2 rfl (by decide) (by rfl) H.rb [.int .i64 x.kind, .int .i64 x.n, str x.s, .slice ya yl yc, .slice yb ym yd] (by rfl) TB (by rfl) (by simp [Value.oneCell']) lenb1 lenb2 H.base ?_
          intro gb cpb W' hr hg hl
          refine hK _ _ ?_
          clear hK K
          have H := H.appB hr hg hl hy S9 SA SB
          clear hr hg hl TB
          go_simp
          refine wpAnyIn_ready (rs := [9]) (by kernel_rfl) (by simp) (AllReadyIn.cons rfl (fun K hK => ?_) AllReadyIn.nil)
          have cq := box_cell H.ba 0
          have fq := box_fr H.ba
          go_simp
          refine hK _ _ ?_
          clear hK K cq fq
          have H := H.setA (.slice (some ⟨ga, 0, none⟩) (ka.length + 1) cpa)
          refine wpAnyIn_ready (rs := [10]) (by kernel_rfl) (by simp) (AllReadyIn.cons rfl (fun K hK => ?_) AllReadyIn.nil)
          have cq := box_cell H.bb 0
          have fq := box_fr H.bb
          go_simp
          refine hK _ _ ?_
          clear hK K cq fq
          have H := H.setB (.slice (some ⟨gb, 0, none⟩) (kb.length + 1) cpb)
          refine wpAnyIn_done (by kernel_rfl) ?_ _
          exact ⟨rfl, _, _, _, _, _, _, _, rfl, _, H⟩
        have c0 := box_cell H.bx 0
        have c1 := box_cell H.bx 1
        have c2 := box_cell H.bx 2
        have c3 := box_cell H.bx 3
        have c4 := box_cell H.bx 4
        go_simp
        refine hK _ _ ?_
        clear hK K c0 c1 c2 c3 c4
        refine wpAnyIn_ready (rs := [0]) (by kernel_rfl) (by simp) (AllReadyIn.cons rfl (fun K hK => ?_) AllReadyIn.nil)
        have cq := box_cell H.ba 0
        go_simp
        refine hK _ _ ?_
        clear hK K cq
        refine wpAnyIn_ready (rs := [3]) (by kernel_rfl) (by simp) (AllReadyIn.cons rfl (fun K hK => ?_) AllReadyIn.nil)
        refine step_liesIn (by rfl) _ _ 54 (by rfl) Tryz.underlying54 hi hz0 hz1 hz2 rfl (by decide) (by rfl) H.ra [str k] (by rfl) TA (by rfl) (by simp [Value.oneCell']) lena1 lena2 H.base ?_
        intro ga cpa W' hr hg hl
        refine hK _ _ ?_
        clear hK K
        have H := H.appA hr hg hl
        clear hr hg hl TA
        go_simp
        refine wpAnyIn_ready (rs := [6]) (by kernel_rfl) (by simp) (AllReadyIn.cons rfl (fun K hK => ?_) AllReadyIn.nil)
        go_simp
        refine (callsIn_wide.2 (plain_any x hsx.out _ _ _ H.rx)).mono ?_
        rintro e W2 ⟨us, rfl, hy, hb2⟩
        obtain ⟨ya, yl, yc, yb, ym, yd, rfl, _, _⟩ := id hy.open
        refine hK _ _ ?_
        clear hK K
        have SA := fun g hg => (H.ra.lt g hg).2
        have SB := fun g hg => (H.rb.lt g hg).2
        have S9 := H.base
        have H := H.up hb2
        clear hb2
        go_simp
        refine wpAnyIn_ready (rs := [7]) (by kernel_rfl) (by simp) (AllReadyIn.cons rfl (fun K hK => ?_) AllReadyIn.nil)
        go_simp
        refine hK _ _ ?_
        clear hK K
        obtain ⟨H, TB⟩ := H.temp [.int .i64 x.kind, .int .i64 x.n, str x.s, .slice ya yl yc, .slice yb ym yd] 35
        have hy := temp_rd hy (.cells ([.int .i64 x.kind, .int .i64 x.n, str x.s, .slice ya yl yc, .slice yb ym yd] : List Value).toArray 35)
        refine wpAnyIn_ready (rs := [8]) (by kernel_rfl) (by simp) (AllReadyIn.cons rfl (fun K hK => ?_) AllReadyIn.nil)
        refine step_liesIn (by rfl) _ _ 32 (by rfl) Tryz.underlying32 gi gz0 gz1 gz2 rfl (by decide) (by rfl) H.rb [.int .i64 x.kind, .int .i64 x.n, str x.s, .slice ya yl yc, .slice yb ym yd] (by rfl) TB (by rfl) (by simp [Value.oneCell']) lenb1 lenb2 H.base ?_
        intro gb cpb W' hr hg hl
        refine hK _ _ ?_
        clear hK K
        have H := H.appB hr hg hl hy S9 SA SB
        clear hr hg hl TB
        go_simp
        refine wpAnyIn_ready (rs := [9]) (by kernel_rfl) (by simp) (AllReadyIn.cons rfl (fun K hK => ?_) AllReadyIn.nil)
        have cq := box_cell H.ba 0
        have fq := box_fr H.ba
        go_simp
        refine hK _ _ ?_
        clear hK K cq fq
        have H := H.setA (.slice (some ⟨ga, 0, none⟩) (ka.length + 1) cpa)
        refine wpAnyIn_ready (rs := [10]) (by kernel_rfl) (by simp) (AllReadyIn.cons rfl (fun K hK => ?_) AllReadyIn.nil)
        have cq := box_cell H.bb 0
        have fq := box_fr H.bb
        go_simp
        refine hK _ _ ?_
        clear hK K cq fq
        have H := H.setB (.slice (some ⟨gb, 0, none⟩) (kb.length + 1) cpb)
        refine wpAnyIn_done (by kernel_rfl) ?_ _
        exact ⟨rfl, _, _, _, _, _, _, _, rfl, _, H⟩
      have c0 := box_cell H.bx 0
      have c1 := box_cell H.bx 1
      have c2 := box_cell H.bx 2
      have c3 := box_cell H.bx 3
      have c4 := box_cell H.bx 4
      go_simp
      refine hK _ _ ?_
      clear hK K c0 c1 c2 c3 c4
      refine wpAnyIn_ready (rs := [0, 2]) (by kernel_rfl) (by simp) (AllReadyIn.cons rfl (fun K hK => ?_) (AllReadyIn.cons rfl (fun K hK => ?_) AllReadyIn.nil))
      · have cq := box_cell H.ba 0
        go_simp
        refine hK _ _ ?_
        clear hK K cq
        refine wpAnyIn_ready (rs := [2]) (by kernel_rfl) (by simp) (AllReadyIn.cons rfl (fun K hK => ?_) AllReadyIn.nil)
        go_simp
        refine hK _ _ ?_
        clear hK K
        obtain ⟨H, TA⟩ := H.temp [str k] 9
        refine wpAnyIn_ready (rs := [3]) (by kernel_rfl) (by simp) (AllReadyIn.cons rfl (fun K hK => ?_) AllReadyIn.nil)
        refine step_liesIn (by rfl) _ _ 54 (by rfl) Tryz.underlying54 hi hz0 hz1 hz2 rfl (by decide) (by rfl) H.ra [str k] (by rfl) TA (by rfl) (by simp [Value.oneCell']) lena1 lena2 H.base ?_
        intro ga cpa W' hr hg hl
        refine hK _ _ ?_
        clear hK K
        have H := H.appA hr hg hl
        clear hr hg hl TA
        go_simp
        refine wpAnyIn_ready (rs := [6]) (by kernel_rfl) (by simp) (AllReadyIn.cons rfl (fun K hK => ?_) AllReadyIn.nil)
        go_simp
        refine (callsIn_wide.2 (plain_any x hsx.out _ _ _ H.rx)).mono ?_
        rintro e W2 ⟨us, rfl, hy, hb2⟩
        obtain ⟨ya, yl, yc, yb, ym, yd, rfl, _, _⟩ := id hy.open
        refine hK _ _ ?_
        clear hK K
        have SA := fun g hg => (H.ra.lt g hg).2
        have SB := fun g hg => (H.rb.lt g hg).2
        have S9 := H.base
        have H := H.up hb2
        clear hb2
        go_simp
        refine wpAnyIn_ready (rs := [7]) (by kernel_rfl) (by simp) (AllReadyIn.cons rfl (fun K hK => ?_) AllReadyIn.nil)
        go_simp
        refine hK _ _ ?_
        clear hK K
        obtain ⟨H, TB⟩ := H.temp [.int .i64 x.kind, .int .i64 x.n, str x.s, .slice ya yl yc, .slice yb ym yd] 35
        have hy := temp_rd hy (.cells ([.int .i64 x.kind, .int .i64 x.n, str x.s, .slice ya yl yc, .slice yb ym yd] : List Value).toArray 35)
        refine wpAnyIn_ready (rs := [8]) (by kernel_rfl) (by simp) (AllReadyIn.cons rfl (fun K hK => ?_) AllReadyIn.nil)
        refine step_liesIn (by rfl) _ _ 32 (by rfl) Tryz.underlying32 gi gz0 gz1 gz2 rfl (by decide) (by rfl) H.rb [.int .i64 x.kind, .int .i64 x.n, str x.s, .slice ya yl yc, .slice yb ym yd] (by rfl) TB (by rfl) (by simp [Value.oneCell']) lenb1 lenb2 H.base ?_
        intro gb cpb W' hr hg hl
        refine hK _ _ ?_
        clear hK K
        have H := H.appB hr hg hl hy S9 SA SB
        clear hr hg hl TB
        go_simp
        refine wpAnyIn_ready (rs := [9]) (by kernel_rfl) (by simp) (AllReadyIn.cons rfl (fun K hK => ?_) AllReadyIn.nil)
        have cq := box_cell H.ba 0
        have fq := box_fr H.ba
        go_simp
        refine hK _ _ ?_
        clear hK K cq fq
        have H := H.setA (.slice (some ⟨ga, 0, none⟩) (ka.length + 1) cpa)
        refine wpAnyIn_ready (rs := [10]) (by kernel_rfl) (by simp) (AllReadyIn.cons rfl (fun K hK => ?_) AllReadyIn.nil)
        have cq := box_cell H.bb 0
        have fq := box_fr H.bb
        go_simp
        refine hK _ _ ?_
        clear hK K cq fq
        have H := H.setB (.slice (some ⟨gb, 0, none⟩) (kb.length + 1) cpb)
        refine wpAnyIn_done (by kernel_rfl) ?_ _
        exact ⟨rfl, _, _, _, _, _, _, _, rfl, _, H⟩
      go_simp
      refine hK _ _ ?_
      clear hK K
      obtain ⟨H, TA⟩ := H.temp [str k] 9
      refine wpAnyIn_ready (rs := [0]) (by kernel_rfl) (by simp) (AllReadyIn.cons rfl (fun K hK => ?_) AllReadyIn.nil)
      have cq := box_cell H.ba 0
      go_simp
      refine hK _ _ ?_
      clear hK K cq
      refine wpAnyIn_ready (rs := [3]) (by kernel_rfl) (by simp) (AllReadyIn.cons rfl (fun K hK => ?_) AllReadyIn.nil)
      refine step_liesIn (by rfl) _ _ 54 (by rfl) Tryz.underlying54 hi hz0 hz1 hz2 rfl (by decide) (by rfl) H.ra [str k] (by rfl) TA (by rfl) (by simp [Value.oneCell']) lena1 lena2 H.base ?_
      intro ga cpa W' hr hg hl
      refine hK _ _ ?_
      clear hK K
      have H := H.appA hr hg hl
      clear hr hg hl TA
      go_simp
      refine wpAnyIn_ready (rs := [6]) (by kernel_rfl) (by simp) (AllReadyIn.cons rfl (fun K hK => ?_) AllReadyIn.nil)
      go_simp
      refine (callsIn_wide.2 (plain_any x hsx.out _ _ _ H.rx)).mono ?_
      rintro e W2 ⟨us, rfl, hy, hb2⟩
      obtain ⟨ya, yl, yc, yb, ym, yd, rfl, _, _⟩ := id hy.open
      refine hK _ _ ?_
      clear hK K
      have SA := fun g hg => (H.ra.lt g hg).2
      have SB := fun g hg => (H.rb.lt g hg).2
      have S9 := H.base
      have H := H.up hb2
      clear hb2
      go_simp
      refine wpAnyIn_ready (rs := [7]) (by kernel_rfl) (by simp) (AllReadyIn.cons rfl (fun K hK => ?_) AllReadyIn.nil)
      go_simp
      refine hK _ _ ?_
      clear hK K
      obtain ⟨H, TB⟩ := H.temp [.int .i64 x.kind, .int .i64 x.n, str x.s, .slice ya yl yc, .slice yb ym yd] 35
      have hy := temp_rd hy (.cells ([.int .i64 x.kind, .int .i64 x.n, str x.s, .slice ya yl yc, .slice yb ym yd] : List Value).toArray 35)
      refine wpAnyIn_ready (rs := [8]) (by kernel_rfl) (by simp) (AllReadyIn.cons rfl (fun K hK => ?_) AllReadyIn.nil)
      refine step_liesIn (by rfl) _ _ 32 (by rfl) Tryz.underlying32 gi gz0 gz1 gz2 rfl (by decide) (by rfl) H.rb [.int .i64 x.kind, .int .i64 x.n, str x.s, .slice ya yl yc, .slice yb ym yd] (by rfl) TB (by rfl) (by simp [Value.oneCell']) lenb1 lenb2 H.base ?_
      intro gb cpb W' hr hg hl
      refine hK _ _ ?_
      clear hK K
      have H := H.appB hr hg hl hy S9 SA SB
      clear hr hg hl TB
      go_simp
      refine wpAnyIn_ready (rs := [9]) (by kernel_rfl) (by simp) (AllReadyIn.cons rfl (fun K hK => ?_) AllReadyIn.nil)
      have cq := box_cell H.ba 0
      have fq := box_fr H.ba
      go_simp
      refine hK _ _ ?_
      clear hK K cq fq
      have H := H.setA (.slice (some ⟨ga, 0, none⟩) (ka.length + 1) cpa)
      refine wpAnyIn_ready (rs := [10]) (by kernel_rfl) (by simp) (AllReadyIn.cons rfl (fun K hK => ?_) AllReadyIn.nil)
      have cq := box_cell H.bb 0
      have fq := box_fr H.bb
      go_simp
      refine hK _ _ ?_
      clear hK K cq fq
      have H := H.setB (.slice (some ⟨gb, 0, none⟩) (kb.length + 1) cpb)
      refine wpAnyIn_done (by kernel_rfl) ?_ _
      exact ⟨rfl, _, _, _, _, _, _, _, rfl, _, H⟩
    · have c0 := box_cell H.bx 0
      have c1 := box_cell H.bx 1
      have c2 := box_cell H.bx 2
      have c3 := box_cell H.bx 3
      have c4 := box_cell H.bx 4
      go_simp
      refine hK _ _ ?_
      clear hK K c0 c1 c2 c3 c4
      refine wpAnyIn_ready (rs := [0, 2, 4]) (by kernel_rfl) (by simp) (AllReadyIn.cons rfl (fun K hK => ?_) (AllReadyIn.cons rfl (fun K hK => ?_) (AllReadyIn.cons rfl (fun K hK => ?_) AllReadyIn.nil)))
      · have cq := box_cell H.ba 0
        go_simp
        refine hK _ _ ?_
        clear hK K cq
        refine wpAnyIn_ready (rs := [2, 4]) (by kernel_rfl) (by simp) (AllReadyIn.cons rfl (fun K hK => ?_) (AllReadyIn.cons rfl (fun K hK => ?_) AllReadyIn.nil))
        · go_simp
          refine hK _ _ ?_
          clear hK K
          obtain ⟨H, TA⟩ := H.temp [str k] 9
          refine wpAnyIn_ready (rs := [3, 4]) (by kernel_rfl) (by simp) (AllReadyIn.cons rfl (fun K hK => ?_) (AllReadyIn.cons rfl (fun K hK => ?_) AllReadyIn.nil))
          · refine step_liesIn (by rfl) _ _ 54 (by rfl) Tryz.underlying54 hi hz0 hz1 hz2 rfl (by decide) (by rfl) H.ra [str k] (by rfl) TA (by rfl) (by simp [Value.oneCell']) lena1 lena2 H.base ?_
            intro ga cpa W' hr hg hl
            refine hK _ _ ?_
            clear hK K
            have H := H.appA hr hg hl
            clear hr hg hl TA
            go_simp
            refine wpAnyIn_ready (rs := [4, 6]) (by kernel_rfl) (by simp) (AllReadyIn.cons rfl (fun K hK => ?_) (AllReadyIn.cons rfl (fun K hK => ?_) AllReadyIn.nil))
            · have cq := box_cell H.bb 0
              go_simp
              refine hK _ _ ?_
              clear hK K cq
              refine wpAnyIn_ready (rs := [6]) (by kernel_rfl) (by simp) (AllReadyIn.cons rfl (fun K hK => ?_) AllReadyIn.nil)
              go_simp
              refine (callsIn_wide.2 (plain_any x hsx.out _ _ _ H.rx)).mono ?_
              rintro e W2 ⟨us, rfl, hy, hb2⟩
              obtain ⟨ya, yl, yc, yb, ym, yd, rfl, _, _⟩ := id hy.open
              refine hK _ _ ?_
              clear hK K
              have SA := fun g hg => (H.ra.lt g hg).2
              have SB := fun g hg => (H.rb.lt g hg).2
              have S9 := H.base
              have H := H.up hb2
              clear hb2
              go_simp
              refine wpAnyIn_ready (rs := [7]) (by kernel_rfl) (by simp) (AllReadyIn.cons rfl (fun K hK => ?_) AllReadyIn.nil)
              go_simp
              refine hK _ _ ?_
              clear hK K
              obtain ⟨H, TB⟩ := H.temp [.int .i64 x.kind, .int .i64 x.n, str x.s, .slice ya yl yc, .slice yb ym yd] 35
              have hy := temp_rd hy (.cells ([.int .i64 x.kind, .int .i64 x.n, str x.s, .slice ya yl yc, .slice yb ym yd] : List Value).toArray 35)
              refine wpAnyIn_ready (rs := [8]) (by kernel_rfl) (by simp) (AllReadyIn.cons rfl (fun K hK => ?_) AllReadyIn.nil)
              refine step_liesIn (by rfl) _ _ 32 (by rfl) Tryz.underlying32 gi gz0 gz1 gz2 rfl (by decide) (by rfl) H.rb [.int .i64 x.kind, .int .i64 x.n, str x.s, .slice ya yl yc, .slice yb ym yd] (by rfl) TB (by rfl) (by simp [Value.oneCell']) lenb1 lenb2 H.base ?_
              intro gb cpb W' hr hg hl
              refine hK _ _ ?_
              clear hK K
              have H := H.appB hr hg hl hy S9 SA SB
              clear hr hg hl TB
              go_simp
              refine wpAnyIn_ready (rs := [9]) (by kernel_rfl) (by simp) (AllReadyIn.cons rfl (fun K hK => ?_) AllReadyIn.nil)
              have cq := box_cell H.ba 0
              have fq := box_fr H.ba
              go_simp
              refine hK _ _ ?_
              clear hK K cq fq
              have H := H.setA (.slice (some ⟨ga, 0, none⟩) (ka.length + 1) cpa)
              refine wpAnyIn_ready (rs := [10]) (by kernel_rfl) (by simp) (AllReadyIn.cons rfl (fun K hK => ?_) AllReadyIn.nil)
              have cq := box_cell H.bb 0
              have fq := box_fr H.bb
              go_simp
              refine hK _ _ ?_
              clear hK K cq fq
              have H := H.setB (.slice (some ⟨gb, 0, none⟩) (kb.length + 1) cpb)
              refine wpAnyIn_done (by kernel_rfl) ?_ _
              exact ⟨rfl, _, _, _, _, _, _, _, rfl, _, H⟩
            go_simp
            refine (callsIn_wide.2 (plain_any x hsx.out _ _ _ H.rx)).mono ?_
            rintro e W2 ⟨us, rfl, hy, hb2⟩
            obtain ⟨ya, yl, yc, yb, ym, yd, rfl, _, _⟩ := id hy.open
            refine hK _ _ ?_
            clear hK K
            have SA := fun g hg => (H.ra.lt g hg).2
            have SB := fun g hg => (H.rb.lt g hg).2
            have S9 := H.base
            have H := H.up hb2
            clear hb2
            go_simp
            refine wpAnyIn_ready (rs := [4, 7]) (by kernel_rfl) (by simp) (AllReadyIn.cons rfl (fun K hK => ?_) (AllReadyIn.cons rfl (fun K hK => ?_) AllReadyIn.nil))
            · have cq := box_cell H.bb 0
              go_simp
              refine hK _ _ ?_
              clear hK K cq
              refine wpAnyIn_ready (rs := [7]) (by kernel_rfl) (by simp) (AllReadyIn.cons rfl (fun K hK => ?_) AllReadyIn.nil)
              go_simp
              refine hK _ _ ?_
              clear hK K
              obtain ⟨H, TB⟩ := H.temp [.int .i64 x.kind, .int .i64 x.n, str x.s, .slice ya yl yc, .slice yb ym yd] 35
              have hy := temp_rd hy (.cells ([.int .i64 x.kind, .int .i64 x.n, str x.s, .slice ya yl yc, .slice yb ym yd] : List Value).toArray 35)
              refine wpAnyIn_ready (rs := [8]) (by kernel_rfl) (by simp) (AllReadyIn.cons rfl (fun K hK => ?_) AllReadyIn.nil)
              refine step_liesIn (by rfl) _ _ 32 (by rfl) Tryz.underlying32 gi gz0 gz1 gz2 rfl (by decide) (by rfl) H.rb [.int .i64 x.kind, .int .i64 x.n, str x.s, .slice ya yl yc, .slice yb ym yd] (by rfl) TB (by rfl) (by simp [Value.oneCell']) lenb1 lenb2 H.base ?_
              intro gb cpb W' hr hg hl
              refine hK _ _ ?_
              clear hK K
              have H := H.appB hr hg hl hy S9 SA SB
              clear hr hg hl TB
              go_simp
              refine wpAnyIn_ready (rs := [9]) (by kernel_rfl) (by simp) (AllReadyIn.cons rfl (fun K hK => ?_) AllReadyIn.nil)
              have cq := box_cell H.ba 0
              have fq := box_fr H.ba
              go_simp
              refine hK _ _ ?_
              clear hK K cq fq
              have H := H.setA (.slice (some ⟨ga, 0, none⟩) (ka.length + 1) cpa)
              refine wpAnyIn_ready (rs := [10]) (by kernel_rfl) (by simp) (AllReadyIn.cons rfl (fun K hK => ?_) AllReadyIn.nil)
              have cq := box_cell H.bb 0
              have fq := box_fr H.bb
              go_simp
              refine hK _ _ ?_
              clear hK K cq fq
              have H := H.setB (.slice (some ⟨gb, 0, none⟩) (kb.length + 1) cpb)
              refine wpAnyIn_done (by kernel_rfl) ?_ _
              exact ⟨rfl, _, _, _, _, _, _, _, rfl, _, H⟩
            go_simp
            refine hK _ _ ?_
            clear hK K
            obtain ⟨H, TB⟩ := H.temp [.int .i64 x.kind, .int .i64 x.n, str x.s, .slice ya yl yc, .slice yb ym yd] 35
            have hy := temp_rd hy (.cells ([.int .i64 x.kind, .int .i64 x.n, str x.s, .slice ya yl yc, .slice yb ym yd] : List Value).toArray 35)
            refine wpAnyIn_ready (rs := [4]) (by kernel_rfl) (by simp) (AllReadyIn.cons rfl (fun K hK => ?_) AllReadyIn.nil)
            have cq := box_cell H.bb 0
            go_simp
            refine hK _ _ ?_
            clear hK K cq
            refine wpAnyIn_ready (rs := [8]) (by kernel_rfl) (by simp) (AllReadyIn.cons rfl (fun K hK => ?_) AllReadyIn.nil)
            refine step_liesIn (by rfl) _ _ 32 (by rfl) Tryz.underlying32 gi gz0 gz1 gz2 rfl (by decide) (by rfl) H.rb [.int .i64 x.kind, .int .i64 x.n, str x.s, .slice ya yl yc, .slice yb ym yd] (by rfl) TB (by rfl) (by simp [Value.oneCell']) lenb1 lenb2 H.base ?_
            intro gb cpb W' hr hg hl
            refine hK _ _ ?_
            clear hK K
            have H := H.appB hr hg hl hy S9 SA SB
            clear hr hg hl TB
            go_simp
            refine wpAnyIn_ready (rs := [9]) (by kernel_rfl) (by simp) (AllReadyIn.cons rfl (fun K hK => ?_) AllReadyIn.nil)
            have cq := box_cell H.ba 0
            have fq := box_fr H.ba
            go_simp
            refine hK _ _ ?_
            clear hK K cq fq
            have H := H.setA (.slice (some ⟨ga, 0, none⟩) (ka.length + 1) cpa)
            refine wpAnyIn_ready (rs := [10]) (by kernel_rfl) (by simp) (AllReadyIn.cons rfl (fun K hK => ?_) AllReadyIn.nil)
            have cq := box_cell H.bb 0
            have fq := box_fr H.bb
            go_simp
            refine hK _ _ ?_
            clear hK K cq fq
            have H := H.setB (.slice (some ⟨gb, 0, none⟩) (kb.length + 1) cpb)
            refine wpAnyIn_done (by kernel_rfl) ?_ _
            exact ⟨rfl, _, _, _, _, _, _, _, rfl, _, H⟩
          have cq := box_cell H.bb 0
          go_simp
          refine hK _ _ ?_
          clear hK K cq
          refine wpAnyIn_ready (rs := [3]) (by kernel_rfl) (by simp) (AllReadyIn.cons rfl (fun K hK => ?_) AllReadyIn.nil)
          refine step_liesIn (by rfl) _ _ 54 (by rfl) Tryz.underlying54 hi hz0 hz1 hz2 rfl (by decide) (by rfl) H.ra [str k] (by rfl) TA (by rfl) (by simp [Value.oneCell']) lena1 lena2 H.base ?_
          intro ga cpa W' hr hg hl
          refine hK _ _ ?_
          clear hK K
          have H := H.appA hr hg hl
          clear hr hg hl TA
          go_simp
          refine wpAnyIn_ready (rs := [6]) (by kernel_rfl) (by simp) (AllReadyIn.cons rfl (fun K hK => ?_) AllReadyIn.nil)
          go_simp
          refine (callsIn_wide.2 (plain_any x hsx.out _ _ _ H.rx)).mono ?_
          rintro e W2 ⟨us, rfl, hy, hb2⟩
          obtain ⟨ya, yl, yc, yb, ym, yd, rfl, _, _⟩ := id hy.open
          refine hK _ _ ?_
          clear hK K
          have SA := fun g hg => (H.ra.lt g hg).2
          have SB := fun g hg => (H.rb.lt g hg).2
          have S9 := H.base
          have H := H.up hb2
          clear hb2
          go_simp
          refine wpAnyIn_ready (rs := [7]) (by kernel_rfl) (by simp) (AllReadyIn.cons rfl (fun K hK => ?_) AllReadyIn.nil)
          go_simp
          refine hK _ _ ?_
          clear hK K
          obtain ⟨H, TB⟩ := H.temp [.int .i64 x.kind, .int .i64 x.n, str x.s, .slice ya yl yc, .slice yb ym yd] 35
          have hy := temp_rd hy (.cells ([.int .i64 x.kind, .int .i64 x.n, str x.s, .slice ya yl yc, .slice yb ym yd] : List Value).toArray 35)
          refine wpAnyIn_ready (rs := [8]) (by kernel_rfl) (by simp) (AllReadyIn.cons rfl (fun K hK => ?_) AllReadyIn.nil)
          refine step_liesIn (by rfl) _ _ 32 (by rfl) Tryz.underlying32 gi gz0 gz1 gz2 rfl (by decide) (by rfl) H.rb [.int .i64 x.kind, .int .i64 x.n, str x.s, .slice ya yl yc, .slice yb ym yd] (by rfl) TB (by rfl) (by simp [Value.oneCell']) lenb1 lenb2 H.base ?_
          intro gb cpb W' hr hg hl
          refine hK _ _ ?_
          clear hK K
          have H := H.appB hr hg hl hy S9 SA SB
          clear hr hg hl TB
          go_simp
          refine wpAnyIn_ready (rs := [9]) (by kernel_rfl) (by simp) (AllReadyIn.cons rfl (fun K hK => ?_) AllReadyIn.nil)
          have cq := box_cell H.ba 0
          have fq := box_fr H.ba
          go_simp
          refine hK _ _ ?_
          clear hK K cq fq
          have H := H.setA (.slice (some ⟨ga, 0, none⟩) (ka.length + 1) cpa)
          refine wpAnyIn_ready (rs := [10]) (by kernel_rfl) (by simp) (AllReadyIn.cons rfl (fun K hK => ?_) AllReadyIn.nil)
          have cq := box_cell H.bb 0
          have fq := box_fr H.bb
          go_simp
          refine hK _ _ ?_
          clear hK K cq fq
          have H := H.setB (.slice (some ⟨gb, 0, none⟩) (kb.length + 1) cpb)
          refine wpAnyIn_done (by kernel_rfl) ?_ _
          exact ⟨rfl, _, _, _, _, _, _, _, rfl, _, H⟩
        have cq := box_cell H.bb 0
        go_simp
        refine hK _ _ ?_
        clear hK K cq
        refine wpAnyIn_ready (rs := [2]) (by kernel_rfl) (by simp) (AllReadyIn.cons rfl (fun K hK => ?_) AllReadyIn.nil)
        go_simp
        refine hK _ _ ?_
        clear hK K
        obtain ⟨H, TA⟩ := H.temp [str k] 9
        refine wpAnyIn_ready (rs := [3]) (by kernel_rfl) (by simp) (AllReadyIn.cons rfl (fun K hK => ?_) AllReadyIn.nil)
        refine step_liesIn (by rfl) _ _ 54 (by rfl) Tryz.underlying54 hi hz0 hz1 hz2 rfl (by decide) (by rfl) H.ra [str k] (by rfl) TA (by rfl) (by simp [Value.oneCell']) lena1 lena2 H.base ?_
        intro ga cpa W' hr hg hl
        refine hK _ _ ?_
        clear hK K
        have H := H.appA hr hg hl
        clear hr hg hl TA
        go_simp
        refine wpAnyIn_ready (rs := [6]) (by kernel_rfl) (by simp) (AllReadyIn.cons rfl (fun K hK => ?_) AllReadyIn.nil)
        go_simp
        refine (callsIn_wide.2 (plain_any x hsx.out _ _ _ H.rx)).mono ?_
        rintro e W2 ⟨us, rfl, hy, hb2⟩
        obtain ⟨ya, yl, yc, yb, ym, yd, rfl, _, _⟩ := id hy.open
        refine hK _ _ ?_
        clear hK K
        have SA := fun g hg => (H.ra.lt g hg).2
        have SB := fun g hg => (H.rb.lt g hg).2
        have S9 := H.base
        have H := H.up hb2
        clear hb2
        go_simp
        refine wpAnyIn_ready (rs := [7]) (by kernel_rfl) (by simp) (AllReadyIn.cons rfl (fun K hK => ?_) AllReadyIn.nil)
        go_simp
        refine hK _ _ ?_
        clear hK K
        obtain ⟨H, TB⟩ := H.temp [.int .i64 x.kind, .int .i64 x.n, str x.s, .slice ya yl yc, .slice yb ym yd] 35
        have hy := temp_rd hy (.cells ([.int .i64 x.kind, .int .i64 x.n, str x.s, .slice ya yl yc, .slice yb ym yd] : List Value).toArray 35)
        refine wpAnyIn_ready (rs := [8]) (by kernel_rfl) (by simp) (AllReadyIn.cons rfl (fun K hK => ?_) AllReadyIn.nil)
        refine step_liesIn (by rfl) _ _ 32 (by rfl) Tryz.underlying32 gi gz0 gz1 gz2 rfl (by decide) (by rfl) H.rb [.int .i64 x.kind, .int .i64 x.n, str x.s, .slice ya yl yc, .slice yb ym yd] (by rfl) TB (by rfl) (by simp [Value.oneCell']) lenb1 lenb2 H.base ?_
        intro gb cpb W' hr hg hl
        refine hK _ _ ?_
        clear hK K
        have H := H.appB hr hg hl hy S9 SA SB
        clear hr hg hl TB
        go_simp
        refine wpAnyIn_ready (rs := [9]) (by kernel_rfl) (by simp) (AllReadyIn.cons rfl (fun K hK => ?_) AllReadyIn.nil)
        have cq := box_cell H.ba 0
        have fq := box_fr H.ba
        go_simp
        refine hK _ _ ?_
        clear hK K cq fq
        have H := H.setA (.slice (some ⟨ga, 0, none⟩) (ka.length + 1) cpa)
        refine wpAnyIn_ready (rs := [10]) (by kernel_rfl) (by simp) (AllReadyIn.cons rfl (fun K hK => ?_) AllReadyIn.nil)
        have cq := box_cell H.bb 0
        have fq := box_fr H.bb
        go_simp
        refine hK _ _ ?_
        clear hK K cq fq
        have H := H.setB (.slice (some ⟨gb, 0, none⟩) (kb.length + 1) cpb)
        refine wpAnyIn_done (by kernel_rfl) ?_ _
        exact ⟨rfl, _, _, _, _, _, _, _, rfl, _, H⟩
      · go_simp
        refine hK _ _ ?_
        clear hK K
        obtain ⟨H, TA⟩ := H.temp [str k] 9
        refine wpAnyIn_ready (rs := [0, 4]) (by kernel_rfl) (by simp) (AllReadyIn.cons rfl (fun K hK => ?_) (AllReadyIn.cons rfl (fun K hK => ?_) AllReadyIn.nil))
        · have cq := box_cell H.ba 0
          go_simp
          refine hK _ _ ?_
          clear hK K cq
          refine wpAnyIn_ready (rs := [3, 4]) (by kernel_rfl) (by simp) (AllReadyIn.cons rfl (fun K hK => ?_) (AllReadyIn.cons rfl (fun K hK => ?_) AllReadyIn.nil))
          · refine step_liesIn (by rfl) _ _ 54 (by rfl) Tryz.underlying54 hi hz0 hz1 hz2 rfl (by decide) (by rfl) H.ra [str k] (by rfl) TA (by rfl) (by simp [Value.oneCell']) lena1 lena2 H.base ?_
            intro ga cpa W' hr hg hl
            refine hK _ _ ?_
            clear hK K
            have H := H.appA hr hg hl
            clear hr hg hl TA
            go_simp
            refine wpAnyIn_ready (rs := [4, 6]) (by kernel_rfl) (by simp) (AllReadyIn.cons rfl (fun K hK => ?_) (AllReadyIn.cons rfl (fun K hK => ?_) AllReadyIn.nil))
            · have cq := box_cell H.bb 0
              go_simp
              refine hK _ _ ?_
              clear hK K cq
              refine wpAnyIn_ready (rs := [6]) (by kernel_rfl) (by simp) (AllReadyIn.cons rfl (fun K hK => ?_) AllReadyIn.nil)
              go_simp
              refine (callsIn_wide.2 (plain_any x hsx.out _ _ _ H.rx)).mono ?_
              rintro e W2 ⟨us, rfl, hy, hb2⟩
              obtain ⟨ya, yl, yc, yb, ym, yd, rfl, _, _⟩ := id hy.open
              refine hK _ _ ?_
              clear hK K
              have SA := fun g hg => (H.ra.lt g hg).2
              have SB := fun g hg => (H.rb.lt g hg).2
              have S9 := H.base
              have H := H.up hb2
              clear hb2
              go_simp
              refine wpAnyIn_ready (rs := [7]) (by kernel_rfl) (by simp) (AllReadyIn.cons rfl (fun K hK => ?_) AllReadyIn.nil)
              go_simp
              refine hK _ _ ?_
              clear hK K
              obtain ⟨H, TB⟩ := H.temp [.int .i64 x.kind, .int .i64 x.n, str x.s, .slice ya yl yc, .slice yb ym yd] 35
              have hy := temp_rd hy (.cells ([.int .i64 x.kind, .int .i64 x.n, str x.s, .slice ya yl yc, .slice yb ym yd] : List Value).toArray 35)
              refine wpAnyIn_ready (rs := [8]) (by kernel_rfl) (by simp) (AllReadyIn.cons rfl (fun K hK => ?_) AllReadyIn.nil)
              refine step_liesIn (by rfl) _ _ 32 (by rfl) Tryz.underlying32 gi gz0 gz1 gz2 rfl (by decide) (by rfl) H.rb [.int .i64 x.kind, .int .i64 x.n, str x.s, .slice ya yl yc, .slice yb ym yd] (by rfl) TB (by rfl) (by simp [Value.oneCell']) lenb1 lenb2 H.base ?_
              intro gb cpb W' hr hg hl
              refine hK _ _ ?_
              clear hK K
              have H := H.appB hr hg hl hy S9 SA SB
              clear hr hg hl TB
              go_simp
              refine wpAnyIn_ready (rs := [9]) (by kernel_rfl) (by simp) (AllReadyIn.cons rfl (fun K hK => ?_) AllReadyIn.nil)
              have cq := box_cell H.ba 0
              have fq := box_fr H.ba
              go_simp
              refine hK _ _ ?_
              clear hK K cq fq
              have H := H.setA (.slice (some ⟨ga, 0, none⟩) (ka.length + 1) cpa)
              refine wpAnyIn_ready (rs := [10]) (by kernel_rfl) (by simp) (AllReadyIn.cons rfl (fun K hK => ?_) AllReadyIn.nil)
              have cq := box_cell H.bb 0
              have fq := box_fr H.bb
              go_simp
              refine hK _ _ ?_
              clear hK K cq fq
              have H := H.setB (.slice (some ⟨gb, 0, none⟩) (kb.length + 1) cpb)
              refine wpAnyIn_done (by kernel_rfl) ?_ _
              exact ⟨rfl, _, _, _, _, _, _, _, rfl, _, H⟩
            go_simp
            refine (callsIn_wide.2 (plain_any x hsx.out _ _ _ H.rx)).mono ?_
            rintro e W2 ⟨us, rfl, hy, hb2⟩
            obtain ⟨ya, yl, yc, yb, ym, yd, rfl, _, _⟩ := id hy.open
            refine hK _ _ ?_
            clear hK K
            have SA := fun g hg => (H.ra.lt g hg).2
            have SB := fun g hg => (H.rb.lt g hg).2
            have S9 := H.base
            have H := H.up hb2
            clear hb2
            go_simp
            refine wpAnyIn_ready (rs := [4, 7]) (by kernel_rfl) (by simp) (AllReadyIn.cons rfl (fun K hK => ?_) (AllReadyIn.cons rfl (fun K hK => ?_) AllReadyIn.nil))
            · have cq := box_cell H.bb 0
              go_simp
              refine hK _ _ ?_
              clear hK K cq
              refine wpAnyIn_ready (rs := [7]) (by kernel_rfl) (by simp) (AllReadyIn.cons rfl (fun K hK => ?_) AllReadyIn.nil)
              go_simp
              refine hK _ _ ?_
              clear hK K
              obtain ⟨H, TB⟩ := H.temp [.int .i64 x.kind, .int .i64 x.n, str x.s, .slice ya yl yc, .slice yb ym yd] 35
              have hy := temp_rd hy (.cells ([.int .i64 x.kind, .int .i64 x.n, str x.s, .slice ya yl yc, .slice yb ym yd] : List Value).toArray 35)
              refine wpAnyIn_ready (rs := [8]) (by kernel_rfl) (by simp) (AllReadyIn.cons rfl (fun K hK => ?_) AllReadyIn.nil)
              refine step_liesIn (by rfl) _ _ 32 (by rfl) Tryz.underlying32 gi gz0 gz1 gz2 rfl (by decide) (by rfl) H.rb [.int .i64 x.kind, .int .i64 x.n, str x.s, .slice ya yl yc, .slice yb ym yd] (by rfl) TB (by rfl) (by simp [Value.oneCell']) lenb1 lenb2 H.base ?_
              intro gb cpb W' hr hg hl
              refine hK _ _ ?_
              clear hK K
              have H := H.appB hr hg hl hy S9 SA SB
              clear hr hg hl TB
              go_simp
              refine wpAnyIn_ready (rs := [9]) (by kernel_rfl) (by simp) (AllReadyIn.cons rfl (fun K hK => ?_) AllReadyIn.nil)
              have cq := box_cell H.ba 0
              have fq := box_fr H.ba
              go_simp
              refine hK _ _ ?_
              clear hK K cq fq
              have H := H.setA (.slice (some ⟨ga, 0, none⟩) (ka.length + 1) cpa)
              refine wpAnyIn_ready (rs := [10]) (by kernel_rfl) (by simp) (AllReadyIn.cons rfl (fun K hK => ?_) AllReadyIn.nil)
              have cq := box_cell H.bb 0
              have fq := box_fr H.bb
              go_simp
              refine hK _ _ ?_
              clear hK K cq fq
              have H := H.setB (.slice (some ⟨gb, 0, none⟩) (kb.length + 1) cpb)
              refine wpAnyIn_done (by kernel_rfl) ?_ _
              exact ⟨rfl, _, _, _, _, _, _, _, rfl, _, H⟩
            go_simp
            refine hK _ _ ?_
            clear hK K
            obtain ⟨H, TB⟩ := H.temp [.int .i64 x.kind, .int .i64 x.n, str x.s, .slice ya yl yc, .slice yb ym yd] 35
            have hy := temp_rd hy (.cells ([.int .i64 x.kind, .int .i64 x.n, str x.s, .slice ya yl yc, .slice yb ym yd] : List Value).toArray 35)
            refine wpAnyIn_ready (rs := [4]) (by kernel_rfl) (by simp) (AllReadyIn.cons rfl (fun K hK => ?_) AllReadyIn.nil)
            have cq := box_cell H.bb 0
            go_simp
            refine hK _ _ ?_
            clear hK K cq
            refine wpAnyIn_ready (rs := [8]) (by kernel_rfl) (by simp) (AllReadyIn.cons rfl (fun K hK => ?_) AllReadyIn.nil)
            refine step_liesIn (by rfl) _ _ 32 (by rfl) Tryz.underlying32 gi gz0 gz1 gz2 rfl (by decide) (by rfl) H.rb [.int .i64 x.kind, .int .i64 x.n, str x.s, .slice ya yl yc, .slice yb ym yd] (by rfl) TB (by rfl) (by simp [Value.oneCell']) lenb1 lenb2 H.base ?_
            intro gb cpb W' hr hg hl
            refine hK _ _ ?_
            clear hK K
            have H := H.appB hr hg hl hy S9 SA SB
            clear hr hg hl TB
            go_simp
            refine wpAnyIn_ready (rs := [9]) (by kernel_rfl) (by simp) (AllReadyIn.cons rfl (fun K hK => ?_) AllReadyIn.nil)
            have cq := box_cell H.ba 0
            have fq := box_fr H.ba
            go_simp
            refine hK _ _ ?_
            clear hK K cq fq
            have H := H.setA (.slice (some ⟨ga, 0, none⟩) (ka.length + 1) cpa)
            refine wpAnyIn_ready (rs := [10]) (by kernel_rfl) (by simp) (AllReadyIn.cons rfl (fun K hK => ?_) AllReadyIn.nil)
            have cq := box_cell H.bb 0
            have fq := box_fr H.bb
            go_simp
            refine hK _ _ ?_
            clear hK K cq fq
            have H := H.setB (.slice (some ⟨gb, 0, none⟩) (kb.length + 1) cpb)
            refine wpAnyIn_done (by kernel_rfl) ?_ _
            exact ⟨rfl, _, _, _, _, _, _, _, rfl, _, H⟩
          have cq := box_cell H.bb 0
          go_simp
          refine hK _ _ ?_
          clear hK K cq
          refine wpAnyIn_ready (rs := [3]) (by kernel_rfl) (by simp) (AllReadyIn.cons rfl (fun K hK => ?_) AllReadyIn.nil)
          refine step_liesIn (by rfl) _ _ 54 (by rfl) Tryz.underlying54 hi hz0 hz1 hz2 rfl (by decide) (by rfl) H.ra [str k] (by rfl) TA (by rfl) (by simp [Value.oneCell']) lena1 lena2 H.base ?_
          intro ga cpa W' hr hg hl
          refine hK _ _ ?_
          clear hK K
          have H := H.appA hr hg hl
          clear hr hg hl TA
          go_simp
          refine wpAnyIn_ready (rs := [6]) (by kernel_rfl) (by simp) (AllReadyIn.cons rfl (fun K hK => ?_) AllReadyIn.nil)
          go_simp
          refine (callsIn_wide.2 (plain_any x hsx.out _ _ _ H.rx)).mono ?_
          rintro e W2 ⟨us, rfl, hy, hb2⟩
          obtain ⟨ya, yl, yc, yb, ym, yd, rfl, _, _⟩ := id hy.open
          refine hK _ _ ?_
          clear hK K
          have SA := fun g hg => (H.ra.lt g hg).2
          have SB := fun g hg => (H.rb.lt g hg).2
          have S9 := H.base
          have H := H.up hb2
          clear hb2
          go_simp
          refine wpAnyIn_ready (rs := [7]) (by kernel_rfl) (by simp) (AllReadyIn.cons rfl (fun K hK => ?_) AllReadyIn.nil)
          go_simp
          refine hK _ _ ?_
          clear hK K
          obtain ⟨H, TB⟩ := H.temp [.int .i64 x.kind, .int .i64 x.n, str x.s, .slice ya yl yc, .slice yb ym yd] 35
          have hy := temp_rd hy (.cells ([.int .i64 x.kind, .int .i64 x.n, str x.s, .slice ya yl yc, .slice yb ym yd] : List Value).toArray 35)
          refine wpAnyIn_ready (rs := [8]) (by kernel_rfl) (by simp) (AllReadyIn.cons rfl (fun K hK => ?_) AllReadyIn.nil)
          refine step_liesIn (by rfl) _ _ 32 (by rfl) Tryz.underlying32 gi gz0 gz1 gz2 rfl (by decide) (by rfl) H.rb [.int .i64 x.kind, .int .i64 x.n, str x.s, .slice ya yl yc, .slice yb ym yd] (by rfl) TB (by rfl) (by simp [Value.oneCell']) lenb1 lenb2 H.base ?_
          intro gb cpb W' hr hg hl
          refine hK _ _ ?_
          clear hK K
          have H := H.appB hr hg hl hy S9 SA SB
          clear hr hg hl TB
          go_simp
          refine wpAnyIn_ready (rs := [9]) (by kernel_rfl) (by simp) (AllReadyIn.cons rfl (fun K hK => ?_) AllReadyIn.nil)
          have cq := box_cell H.ba 0
          have fq := box_fr H.ba
          go_simp
          refine hK _ _ ?_
          clear hK K cq fq
          have H := H.setA (.slice (some ⟨ga, 0, none⟩) (ka.length + 1) cpa)
          refine wpAnyIn_ready (rs := [10]) (by kernel_rfl) (by simp) (AllReadyIn.cons rfl (fun K hK => ?_) AllReadyIn.nil)
          have cq := box_cell H.bb 0
          have fq := box_fr H.bb
          go_simp
          refine hK _ _ ?_
          clear hK K cq fq
          have H := H.setB (.slice (some ⟨gb, 0, none⟩) (kb.length + 1) cpb)
          refine wpAnyIn_done (by kernel_rfl) ?_ _
          exact ⟨rfl, _, _, _, _, _, _, _, rfl, _, H⟩
        have cq := box_cell H.bb 0
        go_simp
        refine hK _ _ ?_
        clear hK K cq
        refine wpAnyIn_ready (rs := [0]) (by kernel_rfl) (by simp) (AllReadyIn.cons rfl (fun K hK => ?_) AllReadyIn.nil)
        have cq := box_cell H.ba 0
        go_simp
        refine hK _ _ ?_
        clear hK K cq
        refine wpAnyIn_ready (rs := [3]) (by kernel_rfl) (by simp) (AllReadyIn.cons rfl (fun K hK => ?_) AllReadyIn.nil)
        refine step_liesIn (by rfl) _ _ 54 (by rfl) Tryz.underlying54 hi hz0 hz1 hz2 rfl (by decide) (by rfl) H.ra [str k] (by rfl) TA (by rfl) (by simp [Value.oneCell']) lena1 lena2 H.base ?_
        intro ga cpa W' hr hg hl
        refine hK _ _ ?_
        clear hK K
        have H := H.appA hr hg hl
        clear hr hg hl TA
        go_simp
        refine wpAnyIn_ready (rs := [6]) (by kernel_rfl) (by simp) (AllReadyIn.cons rfl (fun K hK => ?_) AllReadyIn.nil)
        go_simp
        refine (callsIn_wide.2 (plain_any x hsx.out _ _ _ H.rx)).mono ?_
        rintro e W2 ⟨us, rfl, hy, hb2⟩
        obtain ⟨ya, yl, yc, yb, ym, yd, rfl, _, _⟩ := id hy.open
        refine hK _ _ ?_
        clear hK K
        have SA := fun g hg => (H.ra.lt g hg).2
        have SB := fun g hg => (H.rb.lt g hg).2
        have S9 := H.base
        have H := H.up hb2
        clear hb2
        go_simp
        refine wpAnyIn_ready (rs := [7]) (by kernel_rfl) (by simp) (AllReadyIn.cons rfl (fun K hK => ?_) AllReadyIn.nil)
        go_simp
        refine hK _ _ ?_
        clear hK K
        obtain ⟨H, TB⟩ := H.temp [.int .i64 x.kind, .int .i64 x.n, str x.s, .slice ya yl yc, .slice yb ym yd] 35
        have hy := temp_rd hy (.cells ([.int .i64 x.kind, .int .i64 x.n, str x.s, .slice ya yl yc, .slice yb ym yd] : List Value).toArray 35)
        refine wpAnyIn_ready (rs := [8]) (by kernel_rfl) (by simp) (AllReadyIn.cons rfl (fun K hK => ?_) AllReadyIn.nil)
        refine step_liesIn (by rfl) _ _ 32 (by rfl) Tryz.underlying32 gi gz0 gz1 gz2 rfl (by decide) (by rfl) H.rb [.int .i64 x.kind, .int .i64 x.n, str x.s, .slice ya yl yc, .slice yb ym yd] (by rfl) TB (by rfl) (by simp [Value.oneCell']) lenb1 lenb2 H.base ?_
        intro gb cpb W' hr hg hl
        refine hK _ _ ?_
        clear hK K
        have H := H.appB hr hg hl hy S9 SA SB
        clear hr hg hl TB
        go_simp
        refine wpAnyIn_ready (rs := [9]) (by kernel_rfl) (by simp) (AllReadyIn.cons rfl (fun K hK => ?_) AllReadyIn.nil)
        have cq := box_cell H.ba 0
        have fq := box_fr H.ba
        go_simp
        refine hK _ _ ?_
        clear hK K cq fq
        have H := H.setA (.slice (some ⟨ga, 0, none⟩) (ka.length + 1) cpa)
        refine wpAnyIn_ready (rs := [10]) (by kernel_rfl) (by simp) (AllReadyIn.cons rfl (fun K hK => ?_) AllReadyIn.nil)
        have cq := box_cell H.bb 0
        have fq := box_fr H.bb
        go_simp
        refine hK _ _ ?_
        clear hK K cq fq
        have H := H.setB (.slice (some ⟨gb, 0, none⟩) (kb.length + 1) cpb)
        refine wpAnyIn_done (by kernel_rfl) ?_ _
        exact ⟨rfl, _, _, _, _, _, _, _, rfl, _, H⟩
      have cq := box_cell H.bb 0
      go_simp
      refine hK _ _ ?_
      clear hK K cq
      refine wpAnyIn_ready (rs := [0, 2]) (by kernel_rfl) (by simp) (AllReadyIn.cons rfl (fun K hK => ?_) (AllReadyIn.cons rfl (fun K hK => ?_) AllReadyIn.nil))
      · have cq := box_cell H.ba 0
        go_simp
        refine hK _ _ ?_
        clear hK K cq
        refine wpAnyIn_ready (rs := [2]) (by kernel_rfl) (by simp) (AllReadyIn.cons rfl (fun K hK => ?_) AllReadyIn.nil)
        go_simp
        refine hK _ _ ?_
        clear hK K
        obtain ⟨H, TA⟩ := H.temp [str k] 9
        refine wpAnyIn_ready (rs := [3]) (by kernel_rfl) (by simp) (AllReadyIn.cons rfl (fun K hK => ?_) AllReadyIn.nil)
        refine step_liesIn (by rfl) _ _ 54 (by rfl) Tryz.underlying54 hi hz0 hz1 hz2 rfl (by decide) (by rfl) H.ra [str k] (by rfl) TA (by rfl) (by simp [Value.oneCell']) lena1 lena2 H.base ?_
        intro ga cpa W' hr hg hl
        refine hK _ _ ?_
        clear hK K
        have H := H.appA hr hg hl
        clear hr hg hl TA
        go_simp
        refine wpAnyIn_ready (rs := [6]) (by kernel_rfl) (by simp) (AllReadyIn.cons rfl (fun K hK => ?_) AllReadyIn.nil)
        go_simp
        refine (callsIn_wide.2 (plain_any x hsx.out _ _ _ H.rx)).mono ?_
        rintro e W2 ⟨us, rfl, hy, hb2⟩
        obtain ⟨ya, yl, yc, yb, ym, yd, rfl, _, _⟩ := id hy.open
        refine hK _ _ ?_
        clear hK K
        have SA := fun g hg => (H.ra.lt g hg).2
        have SB := fun g hg => (H.rb.lt g hg).2
        have S9 := H.base
        have H := H.up hb2
        clear hb2
        go_simp
        refine wpAnyIn_ready (rs := [7]) (by kernel_rfl) (by simp) (AllReadyIn.cons rfl (fun K hK => ?_) AllReadyIn.nil)
        go_simp
        refine hK _ _ ?_
        clear hK K
        obtain ⟨H, TB⟩ := H.temp [.int .i64 x.kind, .int .i64 x.n, str x.s, .slice ya yl yc, .slice yb ym yd] 35
        have hy := temp_rd hy (.cells ([.int .i64 x.kind, .int .i64 x.n, str x.s, .slice ya yl yc, .slice yb ym yd] : List Value).toArray 35)
        refine wpAnyIn_ready (rs := [8]) (by kernel_rfl) (by simp) (AllReadyIn.cons rfl (fun K hK => ?_) AllReadyIn.nil)
        refine step_liesIn (by rfl) _ _ 32 (by rfl) Tryz.underlying32 gi gz0 gz1 gz2 rfl (by decide) (by rfl) H.rb [.int .i64 x.kind, .int .i64 x.n, str x.s, .slice ya yl yc, .slice yb ym yd] (by rfl) TB (by rfl) (by simp [Value.oneCell']) lenb1 lenb2 H.base ?_
        intro gb cpb W' hr hg hl
        refine hK _ _ ?_
        clear hK K
        have H := H.appB hr hg hl hy S9 SA SB
        clear hr hg hl TB
        go_simp
        refine wpAnyIn_ready (rs := [9]) (by kernel_rfl) (by simp) (AllReadyIn.cons rfl (fun K hK => ?_) AllReadyIn.nil)
        have cq := box_cell H.ba 0
        have fq := box_fr H.ba
        go_simp
        refine hK _ _ ?_
        clear hK K cq fq
        have H := H.setA (.slice (some ⟨ga, 0, none⟩) (ka.length + 1) cpa)
        refine wpAnyIn_ready (rs := [10]) (by kernel_rfl) (by simp) (AllReadyIn.cons rfl (fun K hK => ?_) AllReadyIn.nil)
        have cq := box_cell H.bb 0
        have fq := box_fr H.bb
        go_simp
        refine hK _ _ ?_
        clear hK K cq fq
        have H := H.setB (.slice (some ⟨gb, 0, none⟩) (kb.length + 1) cpb)
        refine wpAnyIn_done (by kernel_rfl) ?_ _
        exact ⟨rfl, _, _, _, _, _, _, _, rfl, _, H⟩
      go_simp
      refine hK _ _ ?_
      clear hK K
      obtain ⟨H, TA⟩ := H.temp [str k] 9
      refine wpAnyIn_ready (rs := [0]) (by kernel_rfl) (by simp) (AllReadyIn.cons rfl (fun K hK => ?_) AllReadyIn.nil)
      have cq := box_cell H.ba 0
      go_simp
      refine hK _ _ ?_
      clear hK K cq
      refine wpAnyIn_ready (rs := [3]) (by kernel_rfl) (by simp) (AllReadyIn.cons rfl (fun K hK => ?_) AllReadyIn.nil)
      refine step_liesIn (by rfl) _ _ 54 (by rfl) Tryz.underlying54 hi hz0 hz1 hz2 rfl (by decide) (by rfl) H.ra [str k] (by rfl) TA (by rfl) (by simp [Value.oneCell']) lena1 lena2 H.base ?_
      intro ga cpa W' hr hg hl
      refine hK _ _ ?_
      clear hK K
      have H := H.appA hr hg hl
      clear hr hg hl TA
      go_simp
      refine wpAnyIn_ready (rs := [6]) (by kernel_rfl) (by simp) (AllReadyIn.cons rfl (fun K hK => ?_) AllReadyIn.nil)
      go_simp
      refine (callsIn_wide.2 (plain_any x hsx.out _ _ _ H.rx)).mono ?_
      rintro e W2 ⟨us, rfl, hy, hb2⟩
      obtain ⟨ya, yl, yc, yb, ym, yd, rfl, _, _⟩ := id hy.open
      refine hK _ _ ?_
      clear hK K
      have SA := fun g hg => (H.ra.lt g hg).2
      have SB := fun g hg => (H.rb.lt g hg).2
      have S9 := H.base
      have H := H.up hb2
      clear hb2
      go_simp
      refine wpAnyIn_ready (rs := [7]) (by kernel_rfl) (by simp) (AllReadyIn.cons rfl (fun K hK => ?_) AllReadyIn.nil)
      go_simp
      refine hK _ _ ?_
      clear hK K
      obtain ⟨H, TB⟩ := H.temp [.int .i64 x.kind, .int .i64 x.n, str x.s, .slice ya yl yc, .slice yb ym yd] 35
      have hy := temp_rd hy (.cells ([.int .i64 x.kind, .int .i64 x.n, str x.s, .slice ya yl yc, .slice yb ym yd] : List Value).toArray 35)
      refine wpAnyIn_ready (rs := [8]) (by kernel_rfl) (by simp) (AllReadyIn.cons rfl (fun K hK => ?_) AllReadyIn.nil)
      refine step_liesIn (by rfl) _ _ 32 (by rfl) Tryz.underlying32 gi gz0 gz1 gz2 rfl (by decide) (by rfl) H.rb [.int .i64 x.kind, .int .i64 x.n, str x.s, .slice ya yl yc, .slice yb ym yd] (by rfl) TB (by rfl) (by simp [Value.oneCell']) lenb1 lenb2 H.base ?_
      intro gb cpb W' hr hg hl
      refine hK _ _ ?_
      clear hK K
      have H := H.appB hr hg hl hy S9 SA SB
      clear hr hg hl TB
      go_simp
      refine wpAnyIn_ready (rs := [9]) (by kernel_rfl) (by simp) (AllReadyIn.cons rfl (fun K hK => ?_) AllReadyIn.nil)
      have cq := box_cell H.ba 0
      have fq := box_fr H.ba
      go_simp
      refine hK _ _ ?_
      clear hK K cq fq
      have H := H.setA (.slice (some ⟨ga, 0, none⟩) (ka.length + 1) cpa)
      refine wpAnyIn_ready (rs := [10]) (by kernel_rfl) (by simp) (AllReadyIn.cons rfl (fun K hK => ?_) AllReadyIn.nil)
      have cq := box_cell H.bb 0
      have fq := box_fr H.bb
      go_simp
      refine hK _ _ ?_
      clear hK K cq fq
      have H := H.setB (.slice (some ⟨gb, 0, none⟩) (kb.length + 1) cpb)
      refine wpAnyIn_done (by kernel_rfl) ?_ _
      exact ⟨rfl, _, _, _, _, _, _, _, rfl, _, H⟩
    -- REGION END
    rintro a1 W2 ⟨ta, tc, td, ga, cpa, gb, cpb, us, rfl, H1⟩
    obtain ⟨hB, ht, hka, hkb, hla, hlb, hg8⟩ := HH.out
    have ca := box_cell H1.ba 0
    have cn := box_cell H1.bn 0
    have HH1 := Lib.hid H1
    have H3 := Lib.hid (And.intro ht (And.intro hka (And.intro hkb (And.intro hla (And.intro hlb hB)))))
    rw [hla] at ca
    clear H1 H HH hB ht hka hkb hla hlb hg8
    gi_wp2
    all_goals
      obtain ⟨ht, hka, hkb, hla, hlb, hB⟩ := H3.out
      have H4 := HH1.out
      have e1 : (pre ++ [(k, x)]).map (fun p : MemT => str p.1) = ka ++ [str k] := by rw [hka]; simp
      have e2 : (pre ++ [(k, x)]).map (fun p : MemT => p.2) = kb ++ [x] := by rw [hkb]; simp
      have e3 : (pre ++ [(k, x)]).length = (ka ++ [str k]).length := by simp [hla]
      have e4 : (pre ++ [(k, x)]).length = (kb ++ [x]).length := by simp [hlb]
      have HI : NmI w.heap.size N w (pre ++ [(k, x)]) W2 := ⟨_, _, _, H4.ba, H4.bb, H4.bn, by rw [e1, e3]; exact H4.ra, by rw [e4]; exact H4.rb, by rw [e2]; exact H4.rl, hB.trans H4.bl, H4.base⟩
    · have hq : ((pre.length : Int) + 1 == (N : Int)) = true := by first | assumption | fail
      have hq' : pre.length + 1 = N := by have := eq_of_beq hq; omega
      exact ⟨H4.kt.more (by simp), HI, rfl, by simp; omega⟩
    have hq : ((pre.length : Int) + 1 == (N : Int)) = false := by first | assumption | (simp at *; omega) | fail
    have hq' : pre.length + 1 ≠ N := by intro e; rw [← e] at hq; simp at hq
    exact ⟨H4.kt.more (by simp), HI, by simp; omega⟩
  case done =>
    rintro D W hD ⟨⟨va, vb, rows, g1, g2, g3, g4, g5, g6, g7, g8⟩, hlt⟩ hK
    have e : xs.take ((N : Int).toNat) = xs := List.take_of_length_le (by simp; omega)
    have ca := box_cell g1 0
    have cb := box_cell g2 0
    have HG := Lib.hid (And.intro g4 (And.intro g5 (And.intro g6 g7)))
    have hm : Tryz.prog.follows .mixedOrders = true := by kernel_rfl
    clear g1 g2 g3 g4 g5 g6 g7 g8 hsq hOk hxz bN bA bB hB0
    gi_wp2
    gi_region_o
    gi_wp2
    refine ⟨by simp, .inl ⟨_, _, rfl, run_takeDeferred (show W.drew.heap[D]? = _ from hK), ?_⟩⟩
    obtain ⟨g4, g5, g6, g7⟩ := HG.out
    have hK' : W.drew.heap[D]? = some (.deferred (some [])) := hK
    have hra' : W.drew.ownsRow (w.heap.size + 3) 9 1 va _ _ := g4
    have hrb' : W.drew.ownsRow (w.heap.size + 3) 35 5 vb _ _ := g5
    have hrl' := g6.up (W' := W.drew) (Below.drewsN (Below.refl _ W) 1)
    refine ⟨_, results_tmp2 rfl _ _ _, va, vb, rows, rfl, ?_, ?_, ?_, (g7.trans (Below.drewsN (Below.refl _ W) 1)).trans (belowK_b (w := w) (Nat.le_refl _) W.drew D _ _ (by simp at hD; omega) hK' rfl rfl)⟩
    · rw [e]; exact row_mono (ownsRow_putObj hra' _ hK' rfl) (by omega)
    · rw [e]; exact row_mono (ownsRow_putObj hrb' _ hK' rfl) (by omega)
    rw [e]; exact (hrl'.grownN (grownBy_putObj' _ _ _) (fun r e => by cases e; exact ⟨_, hK', rfl⟩)).mono (fun i hi hF => ⟨by omega, hF.2.2.2⟩)
  case stop =>
    rintro D c pre W hD ⟨t, ht⟩ ⟨⟨va, vb, rows, g1, g2, g3, g4, g5, g6, g7, g8⟩, rfl, hlen⟩ hK
    have e : xs.take ((N : Int).toNat) = pre := by rw [ht]; simp [← hlen]
    have ca := box_cell g1 0
    have cb := box_cell g2 0
    have HG := Lib.hid (And.intro g4 (And.intro g5 (And.intro g6 g7)))
    have hm : Tryz.prog.follows .mixedOrders = true := by kernel_rfl
    clear g1 g2 g3 g4 g5 g6 g7 g8 hsq hOk hxz bN bA bB hB0
    gi_wp2
    gi_region_o
    gi_wp2
    refine ⟨by simp, .inl ⟨_, _, rfl, run_takeDeferred (show W.drew.heap[D]? = _ from hK), ?_⟩⟩
    obtain ⟨g4, g5, g6, g7⟩ := HG.out
    have hK' : W.drew.heap[D]? = some (.deferred (some [])) := hK
    have hra' : W.drew.ownsRow (w.heap.size + 3) 9 1 va _ _ := g4
    have hrb' : W.drew.ownsRow (w.heap.size + 3) 35 5 vb _ _ := g5
    have hrl' := g6.up (W' := W.drew) (Below.drewsN (Below.refl _ W) 1)
    refine ⟨_, results_tmp2 rfl _ _ _, va, vb, rows, rfl, ?_, ?_, ?_, (g7.trans (Below.drewsN (Below.refl _ W) 1)).trans (belowK_b (w := w) (Nat.le_refl _) W.drew D _ _ (by simp at hD; omega) hK' rfl rfl)⟩
    · rw [e]; exact row_mono (ownsRow_putObj hra' _ hK' rfl) (by omega)
    · rw [e]; exact row_mono (ownsRow_putObj hrb' _ hK' rfl) (by omega)
    rw [e]; exact (hrl'.grownN (grownBy_putObj' _ _ _) (fun r e => by cases e; exact ⟨_, hK', rfl⟩)).mono (fun i hi hF => ⟨by omega, hF.2.2.2⟩)
end Go.Proofs.YtidlhajibjnkeaaGreatDoor
