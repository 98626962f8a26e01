/- hbllaw9's scanned, by its contract. -/
import Derived.Test.YtainkmbjllklaaaDoorFAll
import Derived.Test.YtainkmbjllklaaaDoorTwoRows
import Derived.Test.YtainkmbjllklaaaDoorLRd
namespace Go.Proofs.YtainkmbjllklaaaDoor
open Go.RowKit
attribute [local go_sem] Oper.semAt_some wide_fn wide_depth

theorem infoIn : (Tryd.prog.info? 3).map (fun i => (i.zero, i.size, i.bytes)) = some (some (.int .i64 0), 1, 8) := by kernel_rfl
theorem own_kt {E : TypeId} {n0 n1 : Nat} {W W' : World} {v : Value} {l : List UInt8} {Wr : TypeId → Prop} (h : Own E W n1 v l) (hn : n0 ≤ n1) (hk : KT Wr n0 W W') (hE : ¬ Wr E) : Own E W' n1 v l := by
  refine ⟨h.1, ?_⟩
  rcases h.2 with hn' | ⟨g, cap, cur, rfl, hb, hg, rest⟩
  · exact .inl hn'
  · exact .inr ⟨g, cap, cur, rfl, hb, hk.cells (Nat.le_trans hn hb) hg hE, rest⟩
theorem each_kt {E : TypeId} {n0 : Nat} {W W' : World} {vs : List Value} {rs : List (List UInt8)} {Wr : TypeId → Prop} (h : Each E n0 W vs rs) (hk : KT Wr n0 W W') (hE : ¬ Wr E) : Each E n0 W' vs rs :=
  ⟨h.len, fun i h1 h2 => own_kt (h.own i h1 h2) (Nat.le_refl _) hk hE⟩
/-- Places, as cells. -/
def atsV (xs : List (Nat × List UInt8)) : List Value := xs.map fun p => .int .i64 (p.1 : Int)
theorem atsV_len (xs : List (Nat × List UInt8)) : (atsV xs).length = xs.length := by simp [atsV]
/-- What scanned tells. -/
def ScdP (w : World) (xs : List (Nat × List UInt8)) (e : Ending) (w' : World) : Prop :=
  ∃ va vb, e = .returned (.tuple #[va, vb]) ∧ w'.ownsRow w.heap.size 3 1 va (atsV xs).length (atsV xs) ∧ LRd w' vb (xs.map (·.2)) ∧ Below w.heap.size w w'
/-- What scanned keeps from round to round. -/
def ScdI (w : World) (N : Nat) (pre : List (Nat × List UInt8)) (W : World) : Prop :=
  BoxRow (w.heap.size + 3) (w.heap.size + 1) 31 3 W (atsV pre) ∧ BoxL (w.heap.size + 3) (w.heap.size + 2) 28 22 5 W (pre.map (·.2)) ∧ Boxed W w.heap.size 3 (.int .i64 (N : Int)) ∧ Below w.heap.size w W
theorem scdI_own (w : World) (N : Nat) {B : Nat} (hB : w.heap.size ≤ B) : OwnFromT (fun _ => False) B (ScdI w N) :=
  OwnFromT.and ((boxRow_ownT _ _ _ _ _ (fun h => h) (fun h => h)).from _) (OwnFromT.and ((boxL_ownT _ _ _ _ _ _ (fun h => h) (fun h => h) (fun h => h)).from _) (OwnFromT.and ((boxed_ownT _ _ _ (fun h => h)).from _) (ownFromT_below (Nat.le_refl _) hB)))
theorem scd_none (f : Value) (n : Int) (w : World) (hf : ∃ g lb, f = .func (.func g) #[] lb) (h1 : n < 1) :
    Calls Tryd.prog 12 #[f, .int .i64 n] w fun e w' => e = .returned (.tuple #[.slice none 0 0, .slice none 0 0]) ∧ Below w.heap.size w w' := by
  obtain ⟨g, lb, rfl⟩ := hf
  have hfn : ∀ w, (binOp .eql 35 (.func (.func g) #[] lb) .nilFunc).run Tryd.prog w = .ok (.bool false) w := fun w => by kernel_rfl
  go_enter Tryd.func12, Tryd.ntmps12
  go_wp2
  go_ret2
  exact ⟨rfl, (((Below.refl _ w).alloc (Nat.le_refl _) _).alloc (by simp) _).alloc (by simp; omega) _⟩
set_option maxRecDepth 100000 in
set_option maxHeartbeats 8000000 in
theorem scd_any {B : Nat} {v0 : Value} {l : List UInt8} {xs : List (Nat × List UInt8)} {w : World} (n : Int) (h1 : 1 ≤ n) (hxs : xs = scanL l (l.length + 1) 0) (hBw : B < w.heap.size) (hbx : Boxed w B 22 v0) (hrd : Rd w v0 l) (htab : Tab w) (hl : l.length ≤ 100000000) :
    Calls Tryd.prog 12 #[.func (.func 22) #[] #[.pointer (some ⟨B, 0, none⟩)], .int .i64 n] w (ScdP w (xs.take n.toNat)) := by
  have hfn : ∀ w, (binOp .eql 35 (.func (.func 22) #[] #[.pointer (some ⟨B, 0, none⟩)]) .nilFunc).run Tryd.prog w = .ok (.bool false) w := fun w => by kernel_rfl
  have hx : xs.length ≤ 100000001 := by rw [hxs]; have := scanL_len l (l.length + 1) 0; omega
  obtain ⟨i0, hi, hz0, hz1, hz2⟩ := info_parts infoIn
  obtain ⟨i1, gi, gz0, gz1, gz2⟩ := info_parts infoSl
  obtain ⟨N, hN, hN1⟩ : ∃ N : Nat, n = (N : Int) ∧ 1 ≤ N := ⟨n.toNat, by omega, by omega⟩
  subst hN
  have hsc : ∀ W', SeqsV (fun _ => False) Tryd.prog 22 #[.pointer (some ⟨B, 0, none⟩)] (ScanR (w.heap.size + 3)) (ScanOk (w.heap.size + 3) B v0 l) (fun T => T = 3 ∨ T = 22) xs W' := by
    intro W'; rw [hxs]; exact scans_any hl
  have hOk : ∀ pre W, ScdI w N pre W → ScanOk (w.heap.size + 3) B v0 l W := fun pre W h => by
    have h0 := h
    obtain ⟨_, ⟨_, ⟨_, _, _⟩, _⟩, _, hb⟩ := h0
    refine ⟨?_, (hb.block B hBw).trans hbx, hrd.below hb (Nat.le_refl _), htab.below hb (Nat.le_refl _)⟩
    obtain ⟨_, ⟨_, ⟨_, h2, _⟩, _⟩, _, _⟩ := h
    exact h2.lt
  clear hxs hrd htab hbx
  refine (callsIn_wide (n := 9)).1 ?_
  refine callsIn_of_wp_marks Tryd.func12 rfl trivial ?_ rfl
  simp only [Tryd.ntmps12, List.size_toArray, List.length_cons, List.length_nil, Nat.reduceAdd, Nat.reduceSub, Array.replicate_succ, Array.replicate_zero, List.push_toArray, List.append_toArray, List.nil_append, List.cons_append]
  gi_wp2
  have bN := Boxed.new w 3 (.int .i64 (N : Int))
  have bA := Boxed.new (w.alloc (.cells #[.int .i64 (N : Int)] 3)) 31 (.slice none 0 0)
  have bB := Boxed.new ((w.alloc (.cells #[.int .i64 (N : Int)] 3)).alloc (.cells #[.slice none 0 0] 31)) 28 (.slice none 0 0)
  simp only [World.size_alloc] at bA bB
  have hB0 : Below w.heap.size w (((w.alloc (.cells #[.int .i64 (N : Int)] 3)).alloc (.cells #[.slice none 0 0] 31)).alloc (.cells #[.slice none 0 0] 28)) := (((Below.refl _ w).alloc (Nat.le_refl _) _).alloc (by simp) _).alloc (by simp; omega) _
  refine range_lawV (Tw := fun _ => False) (gf := 22) (lb := #[.pointer (some ⟨B, 0, none⟩)]) rfl (by intro args w; rfl) (R := ScanR (w.heap.size + 3)) (Ok := ScanOk (w.heap.size + 3) B v0 l) (Wr := fun T => T = 3 ∨ T = 22) (xs := xs) (fun W' _ => hsc W')
    (by rintro x args W ⟨v, rfl, _⟩; rfl)
    (by rintro x args _ X Y row ⟨v, rfl, hv⟩ hg hr; exact ⟨v, rfl, hv.kept hg (own_ownT (Tw := fun _ => False) (fun h => h) hv (fun r e => by obtain ⟨_, o, h1, h2⟩ := hr r e; exact ⟨o, h1, .inl h2⟩))⟩)
    (fun pre W => ScdI w N pre W ∧ pre.length < N)
    (fun c pre W => ScdI w N pre W ∧ c = .exit 0 ∧ pre.length = N)
    (OwnFromT.and (scdI_own w N (by simp; omega)) (ownFromT_pure _ _ (fun pre : List (Nat × List UInt8) => pre.length < N)))
    (fun c => OwnFromT.and (scdI_own w N (by simp; omega)) (ownFromT_pure _ _ (fun pre : List (Nat × List UInt8) => c = .exit 0 ∧ pre.length = N)))
    ⟨⟨⟨_, (bA.alloc _), World.ownsRow_nil _ _ _ _⟩, boxL_nil bB, (bN.alloc _).alloc _, hB0⟩, by simp; omega⟩ (fun pre W h => hOk pre W h.1)
    (fun args => { tmps := #[.func (.func 22) #[] #[.pointer (some ⟨B, 0, none⟩)], .int .i64 (N : Int), undef, .pointer (some ⟨w.heap.size, 0, none⟩), .slice none 0 0, .slice none 0 0, .pointer (some ⟨w.heap.size + 1, 0, none⟩), .pointer (some ⟨w.heap.size + 2, 0, none⟩), args.getD 0 undef, args.getD 1 undef, .func (.func 22) #[] #[.pointer (some ⟨B, 0, none⟩)], .bool false, .bool false, .int .i64 (N : Int), .bool (decide ((N : Int) < 1)), .bool (decide ((N : Int) < 1)), .func (.func 22) #[] #[.pointer (some ⟨B, 0, none⟩)], args.getD 0 undef, args.getD 1 undef, undef, undef, undef, undef, undef, undef, undef, undef, undef, undef, undef, undef, undef, undef], defers := [] }) ?assign ?body ?done ?stop
  case assign =>
    rintro l x args W K ⟨v, rfl, hv⟩ hK
    gi_wp2
    exact hK
  case body =>
    rintro l2 pre ⟨k, r⟩ args W _ ⟨⟨⟨va, hva, hra⟩, ⟨vs, ⟨vb, hvb, hrb⟩, he⟩, hn, hB⟩, hlt⟩ ⟨y, rfl, hy⟩ ⟨t, ht⟩
    dsimp only at hy ⊢
    have hlen : pre.length + 1 ≤ 100000001 := by rw [ht] at hx; simp at hx; omega
    have hsz : w.heap.size + 3 ≤ W.heap.size := hvb.lt
    obtain ⟨ya, yn, yc, rfl⟩ : ∃ ya yn yc, y = .slice ya yn yc := by obtain ⟨a, c, e, _⟩ := hy.rd; exact ⟨a, _, c, e⟩
    obtain ⟨ka, hka⟩ : ∃ k, k = atsV pre := ⟨_, rfl⟩
    obtain ⟨kb, hkb⟩ : ∃ k, k = vs := ⟨_, rfl⟩
    rw [← hka] at hra
    rw [← hkb] at hrb he
    have hla : ka.length = pre.length := by rw [hka]; exact atsV_len _
    have hlb : kb.length = pre.length := by rw [he.len]; simp
    have lena1 : ka.length + 1 ≤ maxLen := by rw [hla]; simp only [maxLen]; omega
    have lena2 : (ka.length + 1) * 8 ≤ 140737488355328 := by omega
    have lenb1 : kb.length + 1 ≤ maxLen := by rw [hlb]; simp only [maxLen]; omega
    have lenb2 : (kb.length + 1) * 24 ≤ 140737488355328 := by omega
    have H : PSt (w.heap.size + 3) w.heap.size (w.heap.size + 1) (w.heap.size + 2) w.heap.size 31 28 3 3 22 W W va vb (.int .i64 (N : Int)) va vb ka kb :=
      ⟨hva, hvb, hn, hra, hrb, KT.refl _ _ _, Below.refl _ _, hsz, by omega, by decide⟩
    have H := H.drew
    have HH := Lib.hid (And.intro hB (And.intro ht (And.intro hka (And.intro hlb (And.intro hla (And.intro he hy))))))
    clear hla hlb hva hvb hn hra hrb hB ht hka hkb hx hOk hsc hB0 bN bA bB hsz he hy
    have hm : Tryd.prog.follows .mixedOrders = true := by kernel_rfl
    gi_wp2
    refine cut_region (fun a W1 => ∃ ta tb ua ub, a = { tmps := #[.func (.func 22) #[] #[.pointer (some ⟨B, 0, none⟩)], .int .i64 (N : Int), undef, .pointer (some ⟨w.heap.size, 0, none⟩), .slice none 0 0, .slice none 0 0, .pointer (some ⟨w.heap.size + 1, 0, none⟩), .pointer (some ⟨w.heap.size + 2, 0, none⟩), .int .i64 (k : Int), .slice ya yn yc, .func (.func 22) #[] #[.pointer (some ⟨B, 0, none⟩)], .bool false, .bool false, .int .i64 (N : Int), .bool (decide ((N : Int) < 1)), .bool (decide ((N : Int) < 1)), .func (.func 22) #[] #[.pointer (some ⟨B, 0, none⟩)], .int .i64 (k : Int), .slice ya yn yc, va, .int .i64 (k : Int), ta, ua, vb, .slice ya yn yc, tb, ub, undef, undef, undef, undef, undef, undef], defers := [] } ∧
      PSt (w.heap.size + 3) w.heap.size (w.heap.size + 1) (w.heap.size + 2) w.heap.size 31 28 3 3 22 W W1 ua ub (.int .i64 (N : Int)) ua ub (ka ++ [.int .i64 (k : Int)]) (kb ++ [.slice ya yn yc])) ?_ ?_
    refine wpIn_region_any hm ?_
    change wpAnyIn _ _ _ _ _ _ _ _ _ (World.drew _)
    refine any_inRound rfl (by kernel_rfl) _ _ _ _ ?_
    generalize W.drew = W9 at H ⊢
    refine wpAnyIn_take (i := 1) (v := ?v1) rfl rfl (by kernel_rfl) (by kernel_rfl) (by kernel_rfl) (fun _ _ _ h => (nomatch h.1)) ⟨Or.inl ⟨by rfl, ?hy1⟩, fun _ => rfl⟩ ?_
    case hy1 => (intro w; go_simp; try with_reducible rfl)
    go_simp
    refine wpAnyIn_take (i := 5) (v := ?v2) rfl rfl (by kernel_rfl) (by kernel_rfl) (by kernel_rfl) (fun _ _ _ h => (nomatch h.1)) ⟨Or.inl ⟨by rfl, ?hy2⟩, fun _ => rfl⟩ ?_
    case hy2 => (intro w; go_simp; try with_reducible rfl)
    go_simp
    refine wpAnyIn_ready (rs := [0, 2, 4, 6]) (by kernel_rfl) (by simp) (AllReadyIn.cons rfl (fun K hK => ?_) (AllReadyIn.cons rfl (fun K hK => ?_) (AllReadyIn.cons rfl (fun K hK => ?_) (AllReadyIn.cons rfl (fun K hK => ?_) AllReadyIn.nil))))
    · have cq := H.ba.cell
      go_simp
      refine hK _ _ ?_
      clear hK K cq
      refine wpAnyIn_ready (rs := [2, 4, 6]) (by kernel_rfl) (by simp) (AllReadyIn.cons rfl (fun K hK => ?_) (AllReadyIn.cons rfl (fun K hK => ?_) (AllReadyIn.cons rfl (fun K hK => ?_) AllReadyIn.nil)))
      · go_simp
        refine hK _ _ ?_
        clear hK K
        obtain ⟨H, TA⟩ := H.temp 3 (.int .i64 (k : Int))
        try simp only [World.size_alloc] at TA
        refine wpAnyIn_ready (rs := [3, 4, 6]) (by kernel_rfl) (by simp) (AllReadyIn.cons rfl (fun K hK => ?_) (AllReadyIn.cons rfl (fun K hK => ?_) (AllReadyIn.cons rfl (fun K hK => ?_) AllReadyIn.nil)))
        · refine step_appendIn (by rfl) _ _ 31 (by rfl) Tryd.underlying31 hi hz0 hz1 hz2 rfl (by rfl) H.ra (by rfl) TA (by rfl) lena1 lena2 H.sz ?_
          intro ua' W' hr hg
          refine hK _ _ ?_
          clear hK K
          have H := H.appA hr hg
          clear hr hg TA
          go_simp
          refine wpAnyIn_ready (rs := [4, 6]) (by kernel_rfl) (by simp) (AllReadyIn.cons rfl (fun K hK => ?_) (AllReadyIn.cons rfl (fun K hK => ?_) AllReadyIn.nil))
          · have cq := H.bb.cell
            go_simp
            refine hK _ _ ?_
            clear hK K cq
            refine wpAnyIn_ready (rs := [6]) (by kernel_rfl) (by simp) (AllReadyIn.cons rfl (fun K hK => ?_) AllReadyIn.nil)
            · go_simp
              refine hK _ _ ?_
              clear hK K
              obtain ⟨H, TB⟩ := H.temp 22 (.slice ya yn yc)
              try simp only [World.size_alloc] at TB
              refine wpAnyIn_ready (rs := [7]) (by kernel_rfl) (by simp) (AllReadyIn.cons rfl (fun K hK => ?_) AllReadyIn.nil)
              · refine step_appendIn (by rfl) _ _ 28 (by rfl) Tryd.underlying28 gi gz0 gz1 gz2 rfl (by rfl) H.rb (by rfl) TB (by rfl) lenb1 lenb2 H.sz ?_
                intro ub' W' hr hg
                refine hK _ _ ?_
                clear hK K
                have H := H.appB hr hg
                clear hr hg TB
                go_simp
                refine wpAnyIn_ready (rs := [8]) (by kernel_rfl) (by simp) (AllReadyIn.cons rfl (fun K hK => ?_) AllReadyIn.nil)
                obtain ⟨ga, cpa, rfl⟩ := ownsRow_succ (by simpa using H.ra)
                have cq := H.ba.cell
                have fq := H.ba.frozen
                go_simp
                refine hK _ _ ?_
                clear hK K cq fq
                have H := H.setA (.slice (some ⟨ga, 0, none⟩) (ka.length + 1) cpa)
                refine wpAnyIn_ready (rs := [9]) (by kernel_rfl) (by simp) (AllReadyIn.cons rfl (fun K hK => ?_) AllReadyIn.nil)
                obtain ⟨gb, cpb, rfl⟩ := ownsRow_succ (by simpa using H.rb)
                have cq := H.bb.cell
                have fq := H.bb.frozen
                go_simp
                refine hK _ _ ?_
                clear hK K cq fq
                have H := H.setB (.slice (some ⟨gb, 0, none⟩) (kb.length + 1) cpb)
                refine wpAnyIn_done (by kernel_rfl) ?_ _
                exact ⟨rfl, _, _, _, _, rfl, H⟩
          · go_simp
            refine hK _ _ ?_
            clear hK K
            obtain ⟨H, TB⟩ := H.temp 22 (.slice ya yn yc)
            try simp only [World.size_alloc] at TB
            refine wpAnyIn_ready (rs := [4]) (by kernel_rfl) (by simp) (AllReadyIn.cons rfl (fun K hK => ?_) AllReadyIn.nil)
            · have cq := H.bb.cell
              go_simp
              refine hK _ _ ?_
              clear hK K cq
              refine wpAnyIn_ready (rs := [7]) (by kernel_rfl) (by simp) (AllReadyIn.cons rfl (fun K hK => ?_) AllReadyIn.nil)
              · refine step_appendIn (by rfl) _ _ 28 (by rfl) Tryd.underlying28 gi gz0 gz1 gz2 rfl (by rfl) H.rb (by rfl) TB (by rfl) lenb1 lenb2 H.sz ?_
                intro ub' W' hr hg
                refine hK _ _ ?_
                clear hK K
                have H := H.appB hr hg
                clear hr hg TB
                go_simp
                refine wpAnyIn_ready (rs := [8]) (by kernel_rfl) (by simp) (AllReadyIn.cons rfl (fun K hK => ?_) AllReadyIn.nil)
                obtain ⟨ga, cpa, rfl⟩ := ownsRow_succ (by simpa using H.ra)
                have cq := H.ba.cell
                have fq := H.ba.frozen
                go_simp
                refine hK _ _ ?_
                clear hK K cq fq
                have H := H.setA (.slice (some ⟨ga, 0, none⟩) (ka.length + 1) cpa)
                refine wpAnyIn_ready (rs := [9]) (by kernel_rfl) (by simp) (AllReadyIn.cons rfl (fun K hK => ?_) AllReadyIn.nil)
                obtain ⟨gb, cpb, rfl⟩ := ownsRow_succ (by simpa using H.rb)
                have cq := H.bb.cell
                have fq := H.bb.frozen
                go_simp
                refine hK _ _ ?_
                clear hK K cq fq
                have H := H.setB (.slice (some ⟨gb, 0, none⟩) (kb.length + 1) cpb)
                refine wpAnyIn_done (by kernel_rfl) ?_ _
                exact ⟨rfl, _, _, _, _, rfl, H⟩
        · have cq := H.bb.cell
          go_simp
          refine hK _ _ ?_
          clear hK K cq
          refine wpAnyIn_ready (rs := [3, 6]) (by kernel_rfl) (by simp) (AllReadyIn.cons rfl (fun K hK => ?_) (AllReadyIn.cons rfl (fun K hK => ?_) AllReadyIn.nil))
          · refine step_appendIn (by rfl) _ _ 31 (by rfl) Tryd.underlying31 hi hz0 hz1 hz2 rfl (by rfl) H.ra (by rfl) TA (by rfl) lena1 lena2 H.sz ?_
            intro ua' W' hr hg
            refine hK _ _ ?_
            clear hK K
            have H := H.appA hr hg
            clear hr hg TA
            go_simp
            refine wpAnyIn_ready (rs := [6]) (by kernel_rfl) (by simp) (AllReadyIn.cons rfl (fun K hK => ?_) AllReadyIn.nil)
            · go_simp
              refine hK _ _ ?_
              clear hK K
              obtain ⟨H, TB⟩ := H.temp 22 (.slice ya yn yc)
              try simp only [World.size_alloc] at TB
              refine wpAnyIn_ready (rs := [7]) (by kernel_rfl) (by simp) (AllReadyIn.cons rfl (fun K hK => ?_) AllReadyIn.nil)
              · refine step_appendIn (by rfl) _ _ 28 (by rfl) Tryd.underlying28 gi gz0 gz1 gz2 rfl (by rfl) H.rb (by rfl) TB (by rfl) lenb1 lenb2 H.sz ?_
                intro ub' W' hr hg
                refine hK _ _ ?_
                clear hK K
                have H := H.appB hr hg
                clear hr hg TB
                go_simp
                refine wpAnyIn_ready (rs := [8]) (by kernel_rfl) (by simp) (AllReadyIn.cons rfl (fun K hK => ?_) AllReadyIn.nil)
                obtain ⟨ga, cpa, rfl⟩ := ownsRow_succ (by simpa using H.ra)
                have cq := H.ba.cell
                have fq := H.ba.frozen
                go_simp
                refine hK _ _ ?_
                clear hK K cq fq
                have H := H.setA (.slice (some ⟨ga, 0, none⟩) (ka.length + 1) cpa)
                refine wpAnyIn_ready (rs := [9]) (by kernel_rfl) (by simp) (AllReadyIn.cons rfl (fun K hK => ?_) AllReadyIn.nil)
                obtain ⟨gb, cpb, rfl⟩ := ownsRow_succ (by simpa using H.rb)
                have cq := H.bb.cell
                have fq := H.bb.frozen
                go_simp
                refine hK _ _ ?_
                clear hK K cq fq
                have H := H.setB (.slice (some ⟨gb, 0, none⟩) (kb.length + 1) cpb)
                refine wpAnyIn_done (by kernel_rfl) ?_ _
                exact ⟨rfl, _, _, _, _, rfl, H⟩
          · go_simp
            refine hK _ _ ?_
            clear hK K
            obtain ⟨H, TB⟩ := H.temp 22 (.slice ya yn yc)
            try simp only [World.size_alloc] at TB
            have TA := TA.alloc (.cells #[(.slice ya yn yc)] 22)
            refine wpAnyIn_ready (rs := [3]) (by kernel_rfl) (by simp) (AllReadyIn.cons rfl (fun K hK => ?_) AllReadyIn.nil)
            · refine step_appendIn (by rfl) _ _ 31 (by rfl) Tryd.underlying31 hi hz0 hz1 hz2 rfl (by rfl) H.ra (by rfl) TA (by rfl) lena1 lena2 H.sz ?_
              intro ua' W' hr hg
              refine hK _ _ ?_
              clear hK K
              have TB := temp_kept TB H.ra hg (by decide)
              have H := H.appA hr hg
              clear hr hg TA
              go_simp
              refine wpAnyIn_ready (rs := [7]) (by kernel_rfl) (by simp) (AllReadyIn.cons rfl (fun K hK => ?_) AllReadyIn.nil)
              · refine step_appendIn (by rfl) _ _ 28 (by rfl) Tryd.underlying28 gi gz0 gz1 gz2 rfl (by rfl) H.rb (by rfl) TB (by rfl) lenb1 lenb2 H.sz ?_
                intro ub' W' hr hg
                refine hK _ _ ?_
                clear hK K
                have H := H.appB hr hg
                clear hr hg TB
                go_simp
                refine wpAnyIn_ready (rs := [8]) (by kernel_rfl) (by simp) (AllReadyIn.cons rfl (fun K hK => ?_) AllReadyIn.nil)
                obtain ⟨ga, cpa, rfl⟩ := ownsRow_succ (by simpa using H.ra)
                have cq := H.ba.cell
                have fq := H.ba.frozen
                go_simp
                refine hK _ _ ?_
                clear hK K cq fq
                have H := H.setA (.slice (some ⟨ga, 0, none⟩) (ka.length + 1) cpa)
                refine wpAnyIn_ready (rs := [9]) (by kernel_rfl) (by simp) (AllReadyIn.cons rfl (fun K hK => ?_) AllReadyIn.nil)
                obtain ⟨gb, cpb, rfl⟩ := ownsRow_succ (by simpa using H.rb)
                have cq := H.bb.cell
                have fq := H.bb.frozen
                go_simp
                refine hK _ _ ?_
                clear hK K cq fq
                have H := H.setB (.slice (some ⟨gb, 0, none⟩) (kb.length + 1) cpb)
                refine wpAnyIn_done (by kernel_rfl) ?_ _
                exact ⟨rfl, _, _, _, _, rfl, H⟩
        · go_simp
          refine hK _ _ ?_
          clear hK K
          obtain ⟨H, TB⟩ := H.temp 22 (.slice ya yn yc)
          try simp only [World.size_alloc] at TB
          have TA := TA.alloc (.cells #[(.slice ya yn yc)] 22)
          refine wpAnyIn_ready (rs := [3, 4]) (by kernel_rfl) (by simp) (AllReadyIn.cons rfl (fun K hK => ?_) (AllReadyIn.cons rfl (fun K hK => ?_) AllReadyIn.nil))
          · refine step_appendIn (by rfl) _ _ 31 (by rfl) Tryd.underlying31 hi hz0 hz1 hz2 rfl (by rfl) H.ra (by rfl) TA (by rfl) lena1 lena2 H.sz ?_
            intro ua' W' hr hg
            refine hK _ _ ?_
            clear hK K
            have TB := temp_kept TB H.ra hg (by decide)
            have H := H.appA hr hg
            clear hr hg TA
            go_simp
            refine wpAnyIn_ready (rs := [4]) (by kernel_rfl) (by simp) (AllReadyIn.cons rfl (fun K hK => ?_) AllReadyIn.nil)
            · have cq := H.bb.cell
              go_simp
              refine hK _ _ ?_
              clear hK K cq
              refine wpAnyIn_ready (rs := [7]) (by kernel_rfl) (by simp) (AllReadyIn.cons rfl (fun K hK => ?_) AllReadyIn.nil)
              · refine step_appendIn (by rfl) _ _ 28 (by rfl) Tryd.underlying28 gi gz0 gz1 gz2 rfl (by rfl) H.rb (by rfl) TB (by rfl) lenb1 lenb2 H.sz ?_
                intro ub' W' hr hg
                refine hK _ _ ?_
                clear hK K
                have H := H.appB hr hg
                clear hr hg TB
                go_simp
                refine wpAnyIn_ready (rs := [8]) (by kernel_rfl) (by simp) (AllReadyIn.cons rfl (fun K hK => ?_) AllReadyIn.nil)
                obtain ⟨ga, cpa, rfl⟩ := ownsRow_succ (by simpa using H.ra)
                have cq := H.ba.cell
                have fq := H.ba.frozen
                go_simp
                refine hK _ _ ?_
                clear hK K cq fq
                have H := H.setA (.slice (some ⟨ga, 0, none⟩) (ka.length + 1) cpa)
                refine wpAnyIn_ready (rs := [9]) (by kernel_rfl) (by simp) (AllReadyIn.cons rfl (fun K hK => ?_) AllReadyIn.nil)
                obtain ⟨gb, cpb, rfl⟩ := ownsRow_succ (by simpa using H.rb)
                have cq := H.bb.cell
                have fq := H.bb.frozen
                go_simp
                refine hK _ _ ?_
                clear hK K cq fq
                have H := H.setB (.slice (some ⟨gb, 0, none⟩) (kb.length + 1) cpb)
                refine wpAnyIn_done (by kernel_rfl) ?_ _
                exact ⟨rfl, _, _, _, _, rfl, H⟩
          · have cq := H.bb.cell
            go_simp
            refine hK _ _ ?_
            clear hK K cq
            refine wpAnyIn_ready (rs := [3]) (by kernel_rfl) (by simp) (AllReadyIn.cons rfl (fun K hK => ?_) AllReadyIn.nil)
            · refine step_appendIn (by rfl) _ _ 31 (by rfl) Tryd.underlying31 hi hz0 hz1 hz2 rfl (by rfl) H.ra (by rfl) TA (by rfl) lena1 lena2 H.sz ?_
              intro ua' W' hr hg
              refine hK _ _ ?_
              clear hK K
              have TB := temp_kept TB H.ra hg (by decide)
              have H := H.appA hr hg
              clear hr hg TA
              go_simp
              refine wpAnyIn_ready (rs := [7]) (by kernel_rfl) (by simp) (AllReadyIn.cons rfl (fun K hK => ?_) AllReadyIn.nil)
              · refine step_appendIn (by rfl) _ _ 28 (by rfl) Tryd.underlying28 gi gz0 gz1 gz2 rfl (by rfl) H.rb (by rfl) TB (by rfl) lenb1 lenb2 H.sz ?_
                intro ub' W' hr hg
                refine hK _ _ ?_
                clear hK K
                have H := H.appB hr hg
                clear hr hg TB
                go_simp
                refine wpAnyIn_ready (rs := [8]) (by kernel_rfl) (by simp) (AllReadyIn.cons rfl (fun K hK => ?_) AllReadyIn.nil)
                obtain ⟨ga, cpa, rfl⟩ := ownsRow_succ (by simpa using H.ra)
                have cq := H.ba.cell
                have fq := H.ba.frozen
                go_simp
                refine hK _ _ ?_
                clear hK K cq fq
                have H := H.setA (.slice (some ⟨ga, 0, none⟩) (ka.length + 1) cpa)
                refine wpAnyIn_ready (rs := [9]) (by kernel_rfl) (by simp) (AllReadyIn.cons rfl (fun K hK => ?_) AllReadyIn.nil)
                obtain ⟨gb, cpb, rfl⟩ := ownsRow_succ (by simpa using H.rb)
                have cq := H.bb.cell
                have fq := H.bb.frozen
                go_simp
                refine hK _ _ ?_
                clear hK K cq fq
                have H := H.setB (.slice (some ⟨gb, 0, none⟩) (kb.length + 1) cpb)
                refine wpAnyIn_done (by kernel_rfl) ?_ _
                exact ⟨rfl, _, _, _, _, rfl, H⟩
      · have cq := H.bb.cell
        go_simp
        refine hK _ _ ?_
        clear hK K cq
        refine wpAnyIn_ready (rs := [2, 6]) (by kernel_rfl) (by simp) (AllReadyIn.cons rfl (fun K hK => ?_) (AllReadyIn.cons rfl (fun K hK => ?_) AllReadyIn.nil))
        · go_simp
          refine hK _ _ ?_
          clear hK K
          obtain ⟨H, TA⟩ := H.temp 3 (.int .i64 (k : Int))
          try simp only [World.size_alloc] at TA
          refine wpAnyIn_ready (rs := [3, 6]) (by kernel_rfl) (by simp) (AllReadyIn.cons rfl (fun K hK => ?_) (AllReadyIn.cons rfl (fun K hK => ?_) AllReadyIn.nil))
          · refine step_appendIn (by rfl) _ _ 31 (by rfl) Tryd.underlying31 hi hz0 hz1 hz2 rfl (by rfl) H.ra (by rfl) TA (by rfl) lena1 lena2 H.sz ?_
            intro ua' W' hr hg
            refine hK _ _ ?_
            clear hK K
            have H := H.appA hr hg
            clear hr hg TA
            go_simp
            refine wpAnyIn_ready (rs := [6]) (by kernel_rfl) (by simp) (AllReadyIn.cons rfl (fun K hK => ?_) AllReadyIn.nil)
            · go_simp
              refine hK _ _ ?_
              clear hK K
              obtain ⟨H, TB⟩ := H.temp 22 (.slice ya yn yc)
              try simp only [World.size_alloc] at TB
              refine wpAnyIn_ready (rs := [7]) (by kernel_rfl) (by simp) (AllReadyIn.cons rfl (fun K hK => ?_) AllReadyIn.nil)
              · refine step_appendIn (by rfl) _ _ 28 (by rfl) Tryd.underlying28 gi gz0 gz1 gz2 rfl (by rfl) H.rb (by rfl) TB (by rfl) lenb1 lenb2 H.sz ?_
                intro ub' W' hr hg
                refine hK _ _ ?_
                clear hK K
                have H := H.appB hr hg
                clear hr hg TB
                go_simp
                refine wpAnyIn_ready (rs := [8]) (by kernel_rfl) (by simp) (AllReadyIn.cons rfl (fun K hK => ?_) AllReadyIn.nil)
                obtain ⟨ga, cpa, rfl⟩ := ownsRow_succ (by simpa using H.ra)
                have cq := H.ba.cell
                have fq := H.ba.frozen
                go_simp
                refine hK _ _ ?_
                clear hK K cq fq
                have H := H.setA (.slice (some ⟨ga, 0, none⟩) (ka.length + 1) cpa)
                refine wpAnyIn_ready (rs := [9]) (by kernel_rfl) (by simp) (AllReadyIn.cons rfl (fun K hK => ?_) AllReadyIn.nil)
                obtain ⟨gb, cpb, rfl⟩ := ownsRow_succ (by simpa using H.rb)
                have cq := H.bb.cell
                have fq := H.bb.frozen
                go_simp
                refine hK _ _ ?_
                clear hK K cq fq
                have H := H.setB (.slice (some ⟨gb, 0, none⟩) (kb.length + 1) cpb)
                refine wpAnyIn_done (by kernel_rfl) ?_ _
                exact ⟨rfl, _, _, _, _, rfl, H⟩
          · go_simp
            refine hK _ _ ?_
            clear hK K
            obtain ⟨H, TB⟩ := H.temp 22 (.slice ya yn yc)
            try simp only [World.size_alloc] at TB
            have TA := TA.alloc (.cells #[(.slice ya yn yc)] 22)
            refine wpAnyIn_ready (rs := [3]) (by kernel_rfl) (by simp) (AllReadyIn.cons rfl (fun K hK => ?_) AllReadyIn.nil)
            · refine step_appendIn (by rfl) _ _ 31 (by rfl) Tryd.underlying31 hi hz0 hz1 hz2 rfl (by rfl) H.ra (by rfl) TA (by rfl) lena1 lena2 H.sz ?_
              intro ua' W' hr hg
              refine hK _ _ ?_
              clear hK K
              have TB := temp_kept TB H.ra hg (by decide)
              have H := H.appA hr hg
              clear hr hg TA
              go_simp
              refine wpAnyIn_ready (rs := [7]) (by kernel_rfl) (by simp) (AllReadyIn.cons rfl (fun K hK => ?_) AllReadyIn.nil)
              · refine step_appendIn (by rfl) _ _ 28 (by rfl) Tryd.underlying28 gi gz0 gz1 gz2 rfl (by rfl) H.rb (by rfl) TB (by rfl) lenb1 lenb2 H.sz ?_
                intro ub' W' hr hg
                refine hK _ _ ?_
                clear hK K
                have H := H.appB hr hg
                clear hr hg TB
                go_simp
                refine wpAnyIn_ready (rs := [8]) (by kernel_rfl) (by simp) (AllReadyIn.cons rfl (fun K hK => ?_) AllReadyIn.nil)
                obtain ⟨ga, cpa, rfl⟩ := ownsRow_succ (by simpa using H.ra)
                have cq := H.ba.cell
                have fq := H.ba.frozen
                go_simp
                refine hK _ _ ?_
                clear hK K cq fq
                have H := H.setA (.slice (some ⟨ga, 0, none⟩) (ka.length + 1) cpa)
                refine wpAnyIn_ready (rs := [9]) (by kernel_rfl) (by simp) (AllReadyIn.cons rfl (fun K hK => ?_) AllReadyIn.nil)
                obtain ⟨gb, cpb, rfl⟩ := ownsRow_succ (by simpa using H.rb)
                have cq := H.bb.cell
                have fq := H.bb.frozen
                go_simp
                refine hK _ _ ?_
                clear hK K cq fq
                have H := H.setB (.slice (some ⟨gb, 0, none⟩) (kb.length + 1) cpb)
                refine wpAnyIn_done (by kernel_rfl) ?_ _
                exact ⟨rfl, _, _, _, _, rfl, H⟩
        · go_simp
          refine hK _ _ ?_
          clear hK K
          obtain ⟨H, TB⟩ := H.temp 22 (.slice ya yn yc)
          try simp only [World.size_alloc] at TB
          refine wpAnyIn_ready (rs := [2]) (by kernel_rfl) (by simp) (AllReadyIn.cons rfl (fun K hK => ?_) AllReadyIn.nil)
          · go_simp
            refine hK _ _ ?_
            clear hK K
            obtain ⟨H, TA⟩ := H.temp 3 (.int .i64 (k : Int))
            try simp only [World.size_alloc] at TA
            have TB := TB.alloc (.cells #[(.int .i64 (k : Int))] 3)
            refine wpAnyIn_ready (rs := [3]) (by kernel_rfl) (by simp) (AllReadyIn.cons rfl (fun K hK => ?_) AllReadyIn.nil)
            · refine step_appendIn (by rfl) _ _ 31 (by rfl) Tryd.underlying31 hi hz0 hz1 hz2 rfl (by rfl) H.ra (by rfl) TA (by rfl) lena1 lena2 H.sz ?_
              intro ua' W' hr hg
              refine hK _ _ ?_
              clear hK K
              have TB := temp_kept TB H.ra hg (by decide)
              have H := H.appA hr hg
              clear hr hg TA
              go_simp
              refine wpAnyIn_ready (rs := [7]) (by kernel_rfl) (by simp) (AllReadyIn.cons rfl (fun K hK => ?_) AllReadyIn.nil)
              · refine step_appendIn (by rfl) _ _ 28 (by rfl) Tryd.underlying28 gi gz0 gz1 gz2 rfl (by rfl) H.rb (by rfl) TB (by rfl) lenb1 lenb2 H.sz ?_
                intro ub' W' hr hg
                refine hK _ _ ?_
                clear hK K
                have H := H.appB hr hg
                clear hr hg TB
                go_simp
                refine wpAnyIn_ready (rs := [8]) (by kernel_rfl) (by simp) (AllReadyIn.cons rfl (fun K hK => ?_) AllReadyIn.nil)
                obtain ⟨ga, cpa, rfl⟩ := ownsRow_succ (by simpa using H.ra)
                have cq := H.ba.cell
                have fq := H.ba.frozen
                go_simp
                refine hK _ _ ?_
                clear hK K cq fq
                have H := H.setA (.slice (some ⟨ga, 0, none⟩) (ka.length + 1) cpa)
                refine wpAnyIn_ready (rs := [9]) (by kernel_rfl) (by simp) (AllReadyIn.cons rfl (fun K hK => ?_) AllReadyIn.nil)
                obtain ⟨gb, cpb, rfl⟩ := ownsRow_succ (by simpa using H.rb)
                have cq := H.bb.cell
                have fq := H.bb.frozen
                go_simp
                refine hK _ _ ?_
                clear hK K cq fq
                have H := H.setB (.slice (some ⟨gb, 0, none⟩) (kb.length + 1) cpb)
                refine wpAnyIn_done (by kernel_rfl) ?_ _
                exact ⟨rfl, _, _, _, _, rfl, H⟩
      · go_simp
        refine hK _ _ ?_
        clear hK K
        obtain ⟨H, TB⟩ := H.temp 22 (.slice ya yn yc)
        try simp only [World.size_alloc] at TB
        refine wpAnyIn_ready (rs := [2, 4]) (by kernel_rfl) (by simp) (AllReadyIn.cons rfl (fun K hK => ?_) (AllReadyIn.cons rfl (fun K hK => ?_) AllReadyIn.nil))
        · go_simp
          refine hK _ _ ?_
          clear hK K
          obtain ⟨H, TA⟩ := H.temp 3 (.int .i64 (k : Int))
          try simp only [World.size_alloc] at TA
          have TB := TB.alloc (.cells #[(.int .i64 (k : Int))] 3)
          refine wpAnyIn_ready (rs := [3, 4]) (by kernel_rfl) (by simp) (AllReadyIn.cons rfl (fun K hK => ?_) (AllReadyIn.cons rfl (fun K hK => ?_) AllReadyIn.nil))
          · refine step_appendIn (by rfl) _ _ 31 (by rfl) Tryd.underlying31 hi hz0 hz1 hz2 rfl (by rfl) H.ra (by rfl) TA (by rfl) lena1 lena2 H.sz ?_
            intro ua' W' hr hg
            refine hK _ _ ?_
            clear hK K
            have TB := temp_kept TB H.ra hg (by decide)
            have H := H.appA hr hg
            clear hr hg TA
            go_simp
            refine wpAnyIn_ready (rs := [4]) (by kernel_rfl) (by simp) (AllReadyIn.cons rfl (fun K hK => ?_) AllReadyIn.nil)
            · have cq := H.bb.cell
              go_simp
              refine hK _ _ ?_
              clear hK K cq
              refine wpAnyIn_ready (rs := [7]) (by kernel_rfl) (by simp) (AllReadyIn.cons rfl (fun K hK => ?_) AllReadyIn.nil)
              · refine step_appendIn (by rfl) _ _ 28 (by rfl) Tryd.underlying28 gi gz0 gz1 gz2 rfl (by rfl) H.rb (by rfl) TB (by rfl) lenb1 lenb2 H.sz ?_
                intro ub' W' hr hg
                refine hK _ _ ?_
                clear hK K
                have H := H.appB hr hg
                clear hr hg TB
                go_simp
                refine wpAnyIn_ready (rs := [8]) (by kernel_rfl) (by simp) (AllReadyIn.cons rfl (fun K hK => ?_) AllReadyIn.nil)
                obtain ⟨ga, cpa, rfl⟩ := ownsRow_succ (by simpa using H.ra)
                have cq := H.ba.cell
                have fq := H.ba.frozen
                go_simp
                refine hK _ _ ?_
                clear hK K cq fq
                have H := H.setA (.slice (some ⟨ga, 0, none⟩) (ka.length + 1) cpa)
                refine wpAnyIn_ready (rs := [9]) (by kernel_rfl) (by simp) (AllReadyIn.cons rfl (fun K hK => ?_) AllReadyIn.nil)
                obtain ⟨gb, cpb, rfl⟩ := ownsRow_succ (by simpa using H.rb)
                have cq := H.bb.cell
                have fq := H.bb.frozen
                go_simp
                refine hK _ _ ?_
                clear hK K cq fq
                have H := H.setB (.slice (some ⟨gb, 0, none⟩) (kb.length + 1) cpb)
                refine wpAnyIn_done (by kernel_rfl) ?_ _
                exact ⟨rfl, _, _, _, _, rfl, H⟩
          · have cq := H.bb.cell
            go_simp
            refine hK _ _ ?_
            clear hK K cq
            refine wpAnyIn_ready (rs := [3]) (by kernel_rfl) (by simp) (AllReadyIn.cons rfl (fun K hK => ?_) AllReadyIn.nil)
            · refine step_appendIn (by rfl) _ _ 31 (by rfl) Tryd.underlying31 hi hz0 hz1 hz2 rfl (by rfl) H.ra (by rfl) TA (by rfl) lena1 lena2 H.sz ?_
              intro ua' W' hr hg
              refine hK _ _ ?_
              clear hK K
              have TB := temp_kept TB H.ra hg (by decide)
              have H := H.appA hr hg
              clear hr hg TA
              go_simp
              refine wpAnyIn_ready (rs := [7]) (by kernel_rfl) (by simp) (AllReadyIn.cons rfl (fun K hK => ?_) AllReadyIn.nil)
              · refine step_appendIn (by rfl) _ _ 28 (by rfl) Tryd.underlying28 gi gz0 gz1 gz2 rfl (by rfl) H.rb (by rfl) TB (by rfl) lenb1 lenb2 H.sz ?_
                intro ub' W' hr hg
                refine hK _ _ ?_
                clear hK K
                have H := H.appB hr hg
                clear hr hg TB
                go_simp
                refine wpAnyIn_ready (rs := [8]) (by kernel_rfl) (by simp) (AllReadyIn.cons rfl (fun K hK => ?_) AllReadyIn.nil)
                obtain ⟨ga, cpa, rfl⟩ := ownsRow_succ (by simpa using H.ra)
                have cq := H.ba.cell
                have fq := H.ba.frozen
                go_simp
                refine hK _ _ ?_
                clear hK K cq fq
                have H := H.setA (.slice (some ⟨ga, 0, none⟩) (ka.length + 1) cpa)
                refine wpAnyIn_ready (rs := [9]) (by kernel_rfl) (by simp) (AllReadyIn.cons rfl (fun K hK => ?_) AllReadyIn.nil)
                obtain ⟨gb, cpb, rfl⟩ := ownsRow_succ (by simpa using H.rb)
                have cq := H.bb.cell
                have fq := H.bb.frozen
                go_simp
                refine hK _ _ ?_
                clear hK K cq fq
                have H := H.setB (.slice (some ⟨gb, 0, none⟩) (kb.length + 1) cpb)
                refine wpAnyIn_done (by kernel_rfl) ?_ _
                exact ⟨rfl, _, _, _, _, rfl, H⟩
        · have cq := H.bb.cell
          go_simp
          refine hK _ _ ?_
          clear hK K cq
          refine wpAnyIn_ready (rs := [2]) (by kernel_rfl) (by simp) (AllReadyIn.cons rfl (fun K hK => ?_) AllReadyIn.nil)
          · go_simp
            refine hK _ _ ?_
            clear hK K
            obtain ⟨H, TA⟩ := H.temp 3 (.int .i64 (k : Int))
            try simp only [World.size_alloc] at TA
            have TB := TB.alloc (.cells #[(.int .i64 (k : Int))] 3)
            refine wpAnyIn_ready (rs := [3]) (by kernel_rfl) (by simp) (AllReadyIn.cons rfl (fun K hK => ?_) AllReadyIn.nil)
            · refine step_appendIn (by rfl) _ _ 31 (by rfl) Tryd.underlying31 hi hz0 hz1 hz2 rfl (by rfl) H.ra (by rfl) TA (by rfl) lena1 lena2 H.sz ?_
              intro ua' W' hr hg
              refine hK _ _ ?_
              clear hK K
              have TB := temp_kept TB H.ra hg (by decide)
              have H := H.appA hr hg
              clear hr hg TA
              go_simp
              refine wpAnyIn_ready (rs := [7]) (by kernel_rfl) (by simp) (AllReadyIn.cons rfl (fun K hK => ?_) AllReadyIn.nil)
              · refine step_appendIn (by rfl) _ _ 28 (by rfl) Tryd.underlying28 gi gz0 gz1 gz2 rfl (by rfl) H.rb (by rfl) TB (by rfl) lenb1 lenb2 H.sz ?_
                intro ub' W' hr hg
                refine hK _ _ ?_
                clear hK K
                have H := H.appB hr hg
                clear hr hg TB
                go_simp
                refine wpAnyIn_ready (rs := [8]) (by kernel_rfl) (by simp) (AllReadyIn.cons rfl (fun K hK => ?_) AllReadyIn.nil)
                obtain ⟨ga, cpa, rfl⟩ := ownsRow_succ (by simpa using H.ra)
                have cq := H.ba.cell
                have fq := H.ba.frozen
                go_simp
                refine hK _ _ ?_
                clear hK K cq fq
                have H := H.setA (.slice (some ⟨ga, 0, none⟩) (ka.length + 1) cpa)
                refine wpAnyIn_ready (rs := [9]) (by kernel_rfl) (by simp) (AllReadyIn.cons rfl (fun K hK => ?_) AllReadyIn.nil)
                obtain ⟨gb, cpb, rfl⟩ := ownsRow_succ (by simpa using H.rb)
                have cq := H.bb.cell
                have fq := H.bb.frozen
                go_simp
                refine hK _ _ ?_
                clear hK K cq fq
                have H := H.setB (.slice (some ⟨gb, 0, none⟩) (kb.length + 1) cpb)
                refine wpAnyIn_done (by kernel_rfl) ?_ _
                exact ⟨rfl, _, _, _, _, rfl, H⟩
    · go_simp
      refine hK _ _ ?_
      clear hK K
      obtain ⟨H, TA⟩ := H.temp 3 (.int .i64 (k : Int))
      try simp only [World.size_alloc] at TA
      refine wpAnyIn_ready (rs := [0, 4, 6]) (by kernel_rfl) (by simp) (AllReadyIn.cons rfl (fun K hK => ?_) (AllReadyIn.cons rfl (fun K hK => ?_) (AllReadyIn.cons rfl (fun K hK => ?_) AllReadyIn.nil)))
      · have cq := H.ba.cell
        go_simp
        refine hK _ _ ?_
        clear hK K cq
        refine wpAnyIn_ready (rs := [3, 4, 6]) (by kernel_rfl) (by simp) (AllReadyIn.cons rfl (fun K hK => ?_) (AllReadyIn.cons rfl (fun K hK => ?_) (AllReadyIn.cons rfl (fun K hK => ?_) AllReadyIn.nil)))
        · refine step_appendIn (by rfl) _ _ 31 (by rfl) Tryd.underlying31 hi hz0 hz1 hz2 rfl (by rfl) H.ra (by rfl) TA (by rfl) lena1 lena2 H.sz ?_
          intro ua' W' hr hg
          refine hK _ _ ?_
          clear hK K
          have H := H.appA hr hg
          clear hr hg TA
          go_simp
          refine wpAnyIn_ready (rs := [4, 6]) (by kernel_rfl) (by simp) (AllReadyIn.cons rfl (fun K hK => ?_) (AllReadyIn.cons rfl (fun K hK => ?_) AllReadyIn.nil))
          · have cq := H.bb.cell
            go_simp
            refine hK _ _ ?_
            clear hK K cq
            refine wpAnyIn_ready (rs := [6]) (by kernel_rfl) (by simp) (AllReadyIn.cons rfl (fun K hK => ?_) AllReadyIn.nil)
            · go_simp
              refine hK _ _ ?_
              clear hK K
              obtain ⟨H, TB⟩ := H.temp 22 (.slice ya yn yc)
              try simp only [World.size_alloc] at TB
              refine wpAnyIn_ready (rs := [7]) (by kernel_rfl) (by simp) (AllReadyIn.cons rfl (fun K hK => ?_) AllReadyIn.nil)
              · refine step_appendIn (by rfl) _ _ 28 (by rfl) Tryd.underlying28 gi gz0 gz1 gz2 rfl (by rfl) H.rb (by rfl) TB (by rfl) lenb1 lenb2 H.sz ?_
                intro ub' W' hr hg
                refine hK _ _ ?_
                clear hK K
                have H := H.appB hr hg
                clear hr hg TB
                go_simp
                refine wpAnyIn_ready (rs := [8]) (by kernel_rfl) (by simp) (AllReadyIn.cons rfl (fun K hK => ?_) AllReadyIn.nil)
                obtain ⟨ga, cpa, rfl⟩ := ownsRow_succ (by simpa using H.ra)
                have cq := H.ba.cell
                have fq := H.ba.frozen
                go_simp
                refine hK _ _ ?_
                clear hK K cq fq
                have H := H.setA (.slice (some ⟨ga, 0, none⟩) (ka.length + 1) cpa)
                refine wpAnyIn_ready (rs := [9]) (by kernel_rfl) (by simp) (AllReadyIn.cons rfl (fun K hK => ?_) AllReadyIn.nil)
                obtain ⟨gb, cpb, rfl⟩ := ownsRow_succ (by simpa using H.rb)
                have cq := H.bb.cell
                have fq := H.bb.frozen
                go_simp
                refine hK _ _ ?_
                clear hK K cq fq
                have H := H.setB (.slice (some ⟨gb, 0, none⟩) (kb.length + 1) cpb)
                refine wpAnyIn_done (by kernel_rfl) ?_ _
                exact ⟨rfl, _, _, _, _, rfl, H⟩
          · go_simp
            refine hK _ _ ?_
            clear hK K
            obtain ⟨H, TB⟩ := H.temp 22 (.slice ya yn yc)
            try simp only [World.size_alloc] at TB
            refine wpAnyIn_ready (rs := [4]) (by kernel_rfl) (by simp) (AllReadyIn.cons rfl (fun K hK => ?_) AllReadyIn.nil)
            · have cq := H.bb.cell
              go_simp
              refine hK _ _ ?_
              clear hK K cq
              refine wpAnyIn_ready (rs := [7]) (by kernel_rfl) (by simp) (AllReadyIn.cons rfl (fun K hK => ?_) AllReadyIn.nil)
              · refine step_appendIn (by rfl) _ _ 28 (by rfl) Tryd.underlying28 gi gz0 gz1 gz2 rfl (by rfl) H.rb (by rfl) TB (by rfl) lenb1 lenb2 H.sz ?_
                intro ub' W' hr hg
                refine hK _ _ ?_
                clear hK K
                have H := H.appB hr hg
                clear hr hg TB
                go_simp
                refine wpAnyIn_ready (rs := [8]) (by kernel_rfl) (by simp) (AllReadyIn.cons rfl (fun K hK => ?_) AllReadyIn.nil)
                obtain ⟨ga, cpa, rfl⟩ := ownsRow_succ (by simpa using H.ra)
                have cq := H.ba.cell
                have fq := H.ba.frozen
                go_simp
                refine hK _ _ ?_
                clear hK K cq fq
                have H := H.setA (.slice (some ⟨ga, 0, none⟩) (ka.length + 1) cpa)
                refine wpAnyIn_ready (rs := [9]) (by kernel_rfl) (by simp) (AllReadyIn.cons rfl (fun K hK => ?_) AllReadyIn.nil)
                obtain ⟨gb, cpb, rfl⟩ := ownsRow_succ (by simpa using H.rb)
                have cq := H.bb.cell
                have fq := H.bb.frozen
                go_simp
                refine hK _ _ ?_
                clear hK K cq fq
                have H := H.setB (.slice (some ⟨gb, 0, none⟩) (kb.length + 1) cpb)
                refine wpAnyIn_done (by kernel_rfl) ?_ _
                exact ⟨rfl, _, _, _, _, rfl, H⟩
        · have cq := H.bb.cell
          go_simp
          refine hK _ _ ?_
          clear hK K cq
          refine wpAnyIn_ready (rs := [3, 6]) (by kernel_rfl) (by simp) (AllReadyIn.cons rfl (fun K hK => ?_) (AllReadyIn.cons rfl (fun K hK => ?_) AllReadyIn.nil))
          · refine step_appendIn (by rfl) _ _ 31 (by rfl) Tryd.underlying31 hi hz0 hz1 hz2 rfl (by rfl) H.ra (by rfl) TA (by rfl) lena1 lena2 H.sz ?_
            intro ua' W' hr hg
            refine hK _ _ ?_
            clear hK K
            have H := H.appA hr hg
            clear hr hg TA
            go_simp
            refine wpAnyIn_ready (rs := [6]) (by kernel_rfl) (by simp) (AllReadyIn.cons rfl (fun K hK => ?_) AllReadyIn.nil)
            · go_simp
              refine hK _ _ ?_
              clear hK K
              obtain ⟨H, TB⟩ := H.temp 22 (.slice ya yn yc)
              try simp only [World.size_alloc] at TB
              refine wpAnyIn_ready (rs := [7]) (by kernel_rfl) (by simp) (AllReadyIn.cons rfl (fun K hK => ?_) AllReadyIn.nil)
              · refine step_appendIn (by rfl) _ _ 28 (by rfl) Tryd.underlying28 gi gz0 gz1 gz2 rfl (by rfl) H.rb (by rfl) TB (by rfl) lenb1 lenb2 H.sz ?_
                intro ub' W' hr hg
                refine hK _ _ ?_
                clear hK K
                have H := H.appB hr hg
                clear hr hg TB
                go_simp
                refine wpAnyIn_ready (rs := [8]) (by kernel_rfl) (by simp) (AllReadyIn.cons rfl (fun K hK => ?_) AllReadyIn.nil)
                obtain ⟨ga, cpa, rfl⟩ := ownsRow_succ (by simpa using H.ra)
                have cq := H.ba.cell
                have fq := H.ba.frozen
                go_simp
                refine hK _ _ ?_
                clear hK K cq fq
                have H := H.setA (.slice (some ⟨ga, 0, none⟩) (ka.length + 1) cpa)
                refine wpAnyIn_ready (rs := [9]) (by kernel_rfl) (by simp) (AllReadyIn.cons rfl (fun K hK => ?_) AllReadyIn.nil)
                obtain ⟨gb, cpb, rfl⟩ := ownsRow_succ (by simpa using H.rb)
                have cq := H.bb.cell
                have fq := H.bb.frozen
                go_simp
                refine hK _ _ ?_
                clear hK K cq fq
                have H := H.setB (.slice (some ⟨gb, 0, none⟩) (kb.length + 1) cpb)
                refine wpAnyIn_done (by kernel_rfl) ?_ _
                exact ⟨rfl, _, _, _, _, rfl, H⟩
          · go_simp
            refine hK _ _ ?_
            clear hK K
            obtain ⟨H, TB⟩ := H.temp 22 (.slice ya yn yc)
            try simp only [World.size_alloc] at TB
            have TA := TA.alloc (.cells #[(.slice ya yn yc)] 22)
            refine wpAnyIn_ready (rs := [3]) (by kernel_rfl) (by simp) (AllReadyIn.cons rfl (fun K hK => ?_) AllReadyIn.nil)
            · refine step_appendIn (by rfl) _ _ 31 (by rfl) Tryd.underlying31 hi hz0 hz1 hz2 rfl (by rfl) H.ra (by rfl) TA (by rfl) lena1 lena2 H.sz ?_
              intro ua' W' hr hg
              refine hK _ _ ?_
              clear hK K
              have TB := temp_kept TB H.ra hg (by decide)
              have H := H.appA hr hg
              clear hr hg TA
              go_simp
              refine wpAnyIn_ready (rs := [7]) (by kernel_rfl) (by simp) (AllReadyIn.cons rfl (fun K hK => ?_) AllReadyIn.nil)
              · refine step_appendIn (by rfl) _ _ 28 (by rfl) Tryd.underlying28 gi gz0 gz1 gz2 rfl (by rfl) H.rb (by rfl) TB (by rfl) lenb1 lenb2 H.sz ?_
                intro ub' W' hr hg
                refine hK _ _ ?_
                clear hK K
                have H := H.appB hr hg
                clear hr hg TB
                go_simp
                refine wpAnyIn_ready (rs := [8]) (by kernel_rfl) (by simp) (AllReadyIn.cons rfl (fun K hK => ?_) AllReadyIn.nil)
                obtain ⟨ga, cpa, rfl⟩ := ownsRow_succ (by simpa using H.ra)
                have cq := H.ba.cell
                have fq := H.ba.frozen
                go_simp
                refine hK _ _ ?_
                clear hK K cq fq
                have H := H.setA (.slice (some ⟨ga, 0, none⟩) (ka.length + 1) cpa)
                refine wpAnyIn_ready (rs := [9]) (by kernel_rfl) (by simp) (AllReadyIn.cons rfl (fun K hK => ?_) AllReadyIn.nil)
                obtain ⟨gb, cpb, rfl⟩ := ownsRow_succ (by simpa using H.rb)
                have cq := H.bb.cell
                have fq := H.bb.frozen
                go_simp
                refine hK _ _ ?_
                clear hK K cq fq
                have H := H.setB (.slice (some ⟨gb, 0, none⟩) (kb.length + 1) cpb)
                refine wpAnyIn_done (by kernel_rfl) ?_ _
                exact ⟨rfl, _, _, _, _, rfl, H⟩
        · go_simp
          refine hK _ _ ?_
          clear hK K
          obtain ⟨H, TB⟩ := H.temp 22 (.slice ya yn yc)
          try simp only [World.size_alloc] at TB
          have TA := TA.alloc (.cells #[(.slice ya yn yc)] 22)
          refine wpAnyIn_ready (rs := [3, 4]) (by kernel_rfl) (by simp) (AllReadyIn.cons rfl (fun K hK => ?_) (AllReadyIn.cons rfl (fun K hK => ?_) AllReadyIn.nil))
          · refine step_appendIn (by rfl) _ _ 31 (by rfl) Tryd.underlying31 hi hz0 hz1 hz2 rfl (by rfl) H.ra (by rfl) TA (by rfl) lena1 lena2 H.sz ?_
            intro ua' W' hr hg
            refine hK _ _ ?_
            clear hK K
            have TB := temp_kept TB H.ra hg (by decide)
            have H := H.appA hr hg
            clear hr hg TA
            go_simp
            refine wpAnyIn_ready (rs := [4]) (by kernel_rfl) (by simp) (AllReadyIn.cons rfl (fun K hK => ?_) AllReadyIn.nil)
            · have cq := H.bb.cell
              go_simp
              refine hK _ _ ?_
              clear hK K cq
              refine wpAnyIn_ready (rs := [7]) (by kernel_rfl) (by simp) (AllReadyIn.cons rfl (fun K hK => ?_) AllReadyIn.nil)
              · refine step_appendIn (by rfl) _ _ 28 (by rfl) Tryd.underlying28 gi gz0 gz1 gz2 rfl (by rfl) H.rb (by rfl) TB (by rfl) lenb1 lenb2 H.sz ?_
                intro ub' W' hr hg
                refine hK _ _ ?_
                clear hK K
                have H := H.appB hr hg
                clear hr hg TB
                go_simp
                refine wpAnyIn_ready (rs := [8]) (by kernel_rfl) (by simp) (AllReadyIn.cons rfl (fun K hK => ?_) AllReadyIn.nil)
                obtain ⟨ga, cpa, rfl⟩ := ownsRow_succ (by simpa using H.ra)
                have cq := H.ba.cell
                have fq := H.ba.frozen
                go_simp
                refine hK _ _ ?_
                clear hK K cq fq
                have H := H.setA (.slice (some ⟨ga, 0, none⟩) (ka.length + 1) cpa)
                refine wpAnyIn_ready (rs := [9]) (by kernel_rfl) (by simp) (AllReadyIn.cons rfl (fun K hK => ?_) AllReadyIn.nil)
                obtain ⟨gb, cpb, rfl⟩ := ownsRow_succ (by simpa using H.rb)
                have cq := H.bb.cell
                have fq := H.bb.frozen
                go_simp
                refine hK _ _ ?_
                clear hK K cq fq
                have H := H.setB (.slice (some ⟨gb, 0, none⟩) (kb.length + 1) cpb)
                refine wpAnyIn_done (by kernel_rfl) ?_ _
                exact ⟨rfl, _, _, _, _, rfl, H⟩
          · have cq := H.bb.cell
            go_simp
            refine hK _ _ ?_
            clear hK K cq
            refine wpAnyIn_ready (rs := [3]) (by kernel_rfl) (by simp) (AllReadyIn.cons rfl (fun K hK => ?_) AllReadyIn.nil)
            · refine step_appendIn (by rfl) _ _ 31 (by rfl) Tryd.underlying31 hi hz0 hz1 hz2 rfl (by rfl) H.ra (by rfl) TA (by rfl) lena1 lena2 H.sz ?_
              intro ua' W' hr hg
              refine hK _ _ ?_
              clear hK K
              have TB := temp_kept TB H.ra hg (by decide)
              have H := H.appA hr hg
              clear hr hg TA
              go_simp
              refine wpAnyIn_ready (rs := [7]) (by kernel_rfl) (by simp) (AllReadyIn.cons rfl (fun K hK => ?_) AllReadyIn.nil)
              · refine step_appendIn (by rfl) _ _ 28 (by rfl) Tryd.underlying28 gi gz0 gz1 gz2 rfl (by rfl) H.rb (by rfl) TB (by rfl) lenb1 lenb2 H.sz ?_
                intro ub' W' hr hg
                refine hK _ _ ?_
                clear hK K
                have H := H.appB hr hg
                clear hr hg TB
                go_simp
                refine wpAnyIn_ready (rs := [8]) (by kernel_rfl) (by simp) (AllReadyIn.cons rfl (fun K hK => ?_) AllReadyIn.nil)
                obtain ⟨ga, cpa, rfl⟩ := ownsRow_succ (by simpa using H.ra)
                have cq := H.ba.cell
                have fq := H.ba.frozen
                go_simp
                refine hK _ _ ?_
                clear hK K cq fq
                have H := H.setA (.slice (some ⟨ga, 0, none⟩) (ka.length + 1) cpa)
                refine wpAnyIn_ready (rs := [9]) (by kernel_rfl) (by simp) (AllReadyIn.cons rfl (fun K hK => ?_) AllReadyIn.nil)
                obtain ⟨gb, cpb, rfl⟩ := ownsRow_succ (by simpa using H.rb)
                have cq := H.bb.cell
                have fq := H.bb.frozen
                go_simp
                refine hK _ _ ?_
                clear hK K cq fq
                have H := H.setB (.slice (some ⟨gb, 0, none⟩) (kb.length + 1) cpb)
                refine wpAnyIn_done (by kernel_rfl) ?_ _
                exact ⟨rfl, _, _, _, _, rfl, H⟩
      · have cq := H.bb.cell
        go_simp
        refine hK _ _ ?_
        clear hK K cq
        refine wpAnyIn_ready (rs := [0, 6]) (by kernel_rfl) (by simp) (AllReadyIn.cons rfl (fun K hK => ?_) (AllReadyIn.cons rfl (fun K hK => ?_) AllReadyIn.nil))
        · have cq := H.ba.cell
          go_simp
          refine hK _ _ ?_
          clear hK K cq
          refine wpAnyIn_ready (rs := [3, 6]) (by kernel_rfl) (by simp) (AllReadyIn.cons rfl (fun K hK => ?_) (AllReadyIn.cons rfl (fun K hK => ?_) AllReadyIn.nil))
          · refine step_appendIn (by rfl) _ _ 31 (by rfl) Tryd.underlying31 hi hz0 hz1 hz2 rfl (by rfl) H.ra (by rfl) TA (by rfl) lena1 lena2 H.sz ?_
            intro ua' W' hr hg
            refine hK _ _ ?_
            clear hK K
            have H := H.appA hr hg
            clear hr hg TA
            go_simp
            refine wpAnyIn_ready (rs := [6]) (by kernel_rfl) (by simp) (AllReadyIn.cons rfl (fun K hK => ?_) AllReadyIn.nil)
            · go_simp
              refine hK _ _ ?_
              clear hK K
              obtain ⟨H, TB⟩ := H.temp 22 (.slice ya yn yc)
              try simp only [World.size_alloc] at TB
              refine wpAnyIn_ready (rs := [7]) (by kernel_rfl) (by simp) (AllReadyIn.cons rfl (fun K hK => ?_) AllReadyIn.nil)
              · refine step_appendIn (by rfl) _ _ 28 (by rfl) Tryd.underlying28 gi gz0 gz1 gz2 rfl (by rfl) H.rb (by rfl) TB (by rfl) lenb1 lenb2 H.sz ?_
                intro ub' W' hr hg
                refine hK _ _ ?_
                clear hK K
                have H := H.appB hr hg
                clear hr hg TB
                go_simp
                refine wpAnyIn_ready (rs := [8]) (by kernel_rfl) (by simp) (AllReadyIn.cons rfl (fun K hK => ?_) AllReadyIn.nil)
                obtain ⟨ga, cpa, rfl⟩ := ownsRow_succ (by simpa using H.ra)
                have cq := H.ba.cell
                have fq := H.ba.frozen
                go_simp
                refine hK _ _ ?_
                clear hK K cq fq
                have H := H.setA (.slice (some ⟨ga, 0, none⟩) (ka.length + 1) cpa)
                refine wpAnyIn_ready (rs := [9]) (by kernel_rfl) (by simp) (AllReadyIn.cons rfl (fun K hK => ?_) AllReadyIn.nil)
                obtain ⟨gb, cpb, rfl⟩ := ownsRow_succ (by simpa using H.rb)
                have cq := H.bb.cell
                have fq := H.bb.frozen
                go_simp
                refine hK _ _ ?_
                clear hK K cq fq
                have H := H.setB (.slice (some ⟨gb, 0, none⟩) (kb.length + 1) cpb)
                refine wpAnyIn_done (by kernel_rfl) ?_ _
                exact ⟨rfl, _, _, _, _, rfl, H⟩
          · go_simp
            refine hK _ _ ?_
            clear hK K
            obtain ⟨H, TB⟩ := H.temp 22 (.slice ya yn yc)
            try simp only [World.size_alloc] at TB
            have TA := TA.alloc (.cells #[(.slice ya yn yc)] 22)
            refine wpAnyIn_ready (rs := [3]) (by kernel_rfl) (by simp) (AllReadyIn.cons rfl (fun K hK => ?_) AllReadyIn.nil)
            · refine step_appendIn (by rfl) _ _ 31 (by rfl) Tryd.underlying31 hi hz0 hz1 hz2 rfl (by rfl) H.ra (by rfl) TA (by rfl) lena1 lena2 H.sz ?_
              intro ua' W' hr hg
              refine hK _ _ ?_
              clear hK K
              have TB := temp_kept TB H.ra hg (by decide)
              have H := H.appA hr hg
              clear hr hg TA
              go_simp
              refine wpAnyIn_ready (rs := [7]) (by kernel_rfl) (by simp) (AllReadyIn.cons rfl (fun K hK => ?_) AllReadyIn.nil)
              · refine step_appendIn (by rfl) _ _ 28 (by rfl) Tryd.underlying28 gi gz0 gz1 gz2 rfl (by rfl) H.rb (by rfl) TB (by rfl) lenb1 lenb2 H.sz ?_
                intro ub' W' hr hg
                refine hK _ _ ?_
                clear hK K
                have H := H.appB hr hg
                clear hr hg TB
                go_simp
                refine wpAnyIn_ready (rs := [8]) (by kernel_rfl) (by simp) (AllReadyIn.cons rfl (fun K hK => ?_) AllReadyIn.nil)
                obtain ⟨ga, cpa, rfl⟩ := ownsRow_succ (by simpa using H.ra)
                have cq := H.ba.cell
                have fq := H.ba.frozen
                go_simp
                refine hK _ _ ?_
                clear hK K cq fq
                have H := H.setA (.slice (some ⟨ga, 0, none⟩) (ka.length + 1) cpa)
                refine wpAnyIn_ready (rs := [9]) (by kernel_rfl) (by simp) (AllReadyIn.cons rfl (fun K hK => ?_) AllReadyIn.nil)
                obtain ⟨gb, cpb, rfl⟩ := ownsRow_succ (by simpa using H.rb)
                have cq := H.bb.cell
                have fq := H.bb.frozen
                go_simp
                refine hK _ _ ?_
                clear hK K cq fq
                have H := H.setB (.slice (some ⟨gb, 0, none⟩) (kb.length + 1) cpb)
                refine wpAnyIn_done (by kernel_rfl) ?_ _
                exact ⟨rfl, _, _, _, _, rfl, H⟩
        · go_simp
          refine hK _ _ ?_
          clear hK K
          obtain ⟨H, TB⟩ := H.temp 22 (.slice ya yn yc)
          try simp only [World.size_alloc] at TB
          have TA := TA.alloc (.cells #[(.slice ya yn yc)] 22)
          refine wpAnyIn_ready (rs := [0]) (by kernel_rfl) (by simp) (AllReadyIn.cons rfl (fun K hK => ?_) AllReadyIn.nil)
          · have cq := H.ba.cell
            go_simp
            refine hK _ _ ?_
            clear hK K cq
            refine wpAnyIn_ready (rs := [3]) (by kernel_rfl) (by simp) (AllReadyIn.cons rfl (fun K hK => ?_) AllReadyIn.nil)
            · refine step_appendIn (by rfl) _ _ 31 (by rfl) Tryd.underlying31 hi hz0 hz1 hz2 rfl (by rfl) H.ra (by rfl) TA (by rfl) lena1 lena2 H.sz ?_
              intro ua' W' hr hg
              refine hK _ _ ?_
              clear hK K
              have TB := temp_kept TB H.ra hg (by decide)
              have H := H.appA hr hg
              clear hr hg TA
              go_simp
              refine wpAnyIn_ready (rs := [7]) (by kernel_rfl) (by simp) (AllReadyIn.cons rfl (fun K hK => ?_) AllReadyIn.nil)
              · refine step_appendIn (by rfl) _ _ 28 (by rfl) Tryd.underlying28 gi gz0 gz1 gz2 rfl (by rfl) H.rb (by rfl) TB (by rfl) lenb1 lenb2 H.sz ?_
                intro ub' W' hr hg
                refine hK _ _ ?_
                clear hK K
                have H := H.appB hr hg
                clear hr hg TB
                go_simp
                refine wpAnyIn_ready (rs := [8]) (by kernel_rfl) (by simp) (AllReadyIn.cons rfl (fun K hK => ?_) AllReadyIn.nil)
                obtain ⟨ga, cpa, rfl⟩ := ownsRow_succ (by simpa using H.ra)
                have cq := H.ba.cell
                have fq := H.ba.frozen
                go_simp
                refine hK _ _ ?_
                clear hK K cq fq
                have H := H.setA (.slice (some ⟨ga, 0, none⟩) (ka.length + 1) cpa)
                refine wpAnyIn_ready (rs := [9]) (by kernel_rfl) (by simp) (AllReadyIn.cons rfl (fun K hK => ?_) AllReadyIn.nil)
                obtain ⟨gb, cpb, rfl⟩ := ownsRow_succ (by simpa using H.rb)
                have cq := H.bb.cell
                have fq := H.bb.frozen
                go_simp
                refine hK _ _ ?_
                clear hK K cq fq
                have H := H.setB (.slice (some ⟨gb, 0, none⟩) (kb.length + 1) cpb)
                refine wpAnyIn_done (by kernel_rfl) ?_ _
                exact ⟨rfl, _, _, _, _, rfl, H⟩
      · go_simp
        refine hK _ _ ?_
        clear hK K
        obtain ⟨H, TB⟩ := H.temp 22 (.slice ya yn yc)
        try simp only [World.size_alloc] at TB
        have TA := TA.alloc (.cells #[(.slice ya yn yc)] 22)
        refine wpAnyIn_ready (rs := [0, 4]) (by kernel_rfl) (by simp) (AllReadyIn.cons rfl (fun K hK => ?_) (AllReadyIn.cons rfl (fun K hK => ?_) AllReadyIn.nil))
        · have cq := H.ba.cell
          go_simp
          refine hK _ _ ?_
          clear hK K cq
          refine wpAnyIn_ready (rs := [3, 4]) (by kernel_rfl) (by simp) (AllReadyIn.cons rfl (fun K hK => ?_) (AllReadyIn.cons rfl (fun K hK => ?_) AllReadyIn.nil))
          · refine step_appendIn (by rfl) _ _ 31 (by rfl) Tryd.underlying31 hi hz0 hz1 hz2 rfl (by rfl) H.ra (by rfl) TA (by rfl) lena1 lena2 H.sz ?_
            intro ua' W' hr hg
            refine hK _ _ ?_
            clear hK K
            have TB := temp_kept TB H.ra hg (by decide)
            have H := H.appA hr hg
            clear hr hg TA
            go_simp
            refine wpAnyIn_ready (rs := [4]) (by kernel_rfl) (by simp) (AllReadyIn.cons rfl (fun K hK => ?_) AllReadyIn.nil)
            · have cq := H.bb.cell
              go_simp
              refine hK _ _ ?_
              clear hK K cq
              refine wpAnyIn_ready (rs := [7]) (by kernel_rfl) (by simp) (AllReadyIn.cons rfl (fun K hK => ?_) AllReadyIn.nil)
              · refine step_appendIn (by rfl) _ _ 28 (by rfl) Tryd.underlying28 gi gz0 gz1 gz2 rfl (by rfl) H.rb (by rfl) TB (by rfl) lenb1 lenb2 H.sz ?_
                intro ub' W' hr hg
                refine hK _ _ ?_
                clear hK K
                have H := H.appB hr hg
                clear hr hg TB
                go_simp
                refine wpAnyIn_ready (rs := [8]) (by kernel_rfl) (by simp) (AllReadyIn.cons rfl (fun K hK => ?_) AllReadyIn.nil)
                obtain ⟨ga, cpa, rfl⟩ := ownsRow_succ (by simpa using H.ra)
                have cq := H.ba.cell
                have fq := H.ba.frozen
                go_simp
                refine hK _ _ ?_
                clear hK K cq fq
                have H := H.setA (.slice (some ⟨ga, 0, none⟩) (ka.length + 1) cpa)
                refine wpAnyIn_ready (rs := [9]) (by kernel_rfl) (by simp) (AllReadyIn.cons rfl (fun K hK => ?_) AllReadyIn.nil)
                obtain ⟨gb, cpb, rfl⟩ := ownsRow_succ (by simpa using H.rb)
                have cq := H.bb.cell
                have fq := H.bb.frozen
                go_simp
                refine hK _ _ ?_
                clear hK K cq fq
                have H := H.setB (.slice (some ⟨gb, 0, none⟩) (kb.length + 1) cpb)
                refine wpAnyIn_done (by kernel_rfl) ?_ _
                exact ⟨rfl, _, _, _, _, rfl, H⟩
          · have cq := H.bb.cell
            go_simp
            refine hK _ _ ?_
            clear hK K cq
            refine wpAnyIn_ready (rs := [3]) (by kernel_rfl) (by simp) (AllReadyIn.cons rfl (fun K hK => ?_) AllReadyIn.nil)
            · refine step_appendIn (by rfl) _ _ 31 (by rfl) Tryd.underlying31 hi hz0 hz1 hz2 rfl (by rfl) H.ra (by rfl) TA (by rfl) lena1 lena2 H.sz ?_
              intro ua' W' hr hg
              refine hK _ _ ?_
              clear hK K
              have TB := temp_kept TB H.ra hg (by decide)
              have H := H.appA hr hg
              clear hr hg TA
              go_simp
              refine wpAnyIn_ready (rs := [7]) (by kernel_rfl) (by simp) (AllReadyIn.cons rfl (fun K hK => ?_) AllReadyIn.nil)
              · refine step_appendIn (by rfl) _ _ 28 (by rfl) Tryd.underlying28 gi gz0 gz1 gz2 rfl (by rfl) H.rb (by rfl) TB (by rfl) lenb1 lenb2 H.sz ?_
                intro ub' W' hr hg
                refine hK _ _ ?_
                clear hK K
                have H := H.appB hr hg
                clear hr hg TB
                go_simp
                refine wpAnyIn_ready (rs := [8]) (by kernel_rfl) (by simp) (AllReadyIn.cons rfl (fun K hK => ?_) AllReadyIn.nil)
                obtain ⟨ga, cpa, rfl⟩ := ownsRow_succ (by simpa using H.ra)
                have cq := H.ba.cell
                have fq := H.ba.frozen
                go_simp
                refine hK _ _ ?_
                clear hK K cq fq
                have H := H.setA (.slice (some ⟨ga, 0, none⟩) (ka.length + 1) cpa)
                refine wpAnyIn_ready (rs := [9]) (by kernel_rfl) (by simp) (AllReadyIn.cons rfl (fun K hK => ?_) AllReadyIn.nil)
                obtain ⟨gb, cpb, rfl⟩ := ownsRow_succ (by simpa using H.rb)
                have cq := H.bb.cell
                have fq := H.bb.frozen
                go_simp
                refine hK _ _ ?_
                clear hK K cq fq
                have H := H.setB (.slice (some ⟨gb, 0, none⟩) (kb.length + 1) cpb)
                refine wpAnyIn_done (by kernel_rfl) ?_ _
                exact ⟨rfl, _, _, _, _, rfl, H⟩
        · have cq := H.bb.cell
          go_simp
          refine hK _ _ ?_
          clear hK K cq
          refine wpAnyIn_ready (rs := [0]) (by kernel_rfl) (by simp) (AllReadyIn.cons rfl (fun K hK => ?_) AllReadyIn.nil)
          · have cq := H.ba.cell
            go_simp
            refine hK _ _ ?_
            clear hK K cq
            refine wpAnyIn_ready (rs := [3]) (by kernel_rfl) (by simp) (AllReadyIn.cons rfl (fun K hK => ?_) AllReadyIn.nil)
            · refine step_appendIn (by rfl) _ _ 31 (by rfl) Tryd.underlying31 hi hz0 hz1 hz2 rfl (by rfl) H.ra (by rfl) TA (by rfl) lena1 lena2 H.sz ?_
              intro ua' W' hr hg
              refine hK _ _ ?_
              clear hK K
              have TB := temp_kept TB H.ra hg (by decide)
              have H := H.appA hr hg
              clear hr hg TA
              go_simp
              refine wpAnyIn_ready (rs := [7]) (by kernel_rfl) (by simp) (AllReadyIn.cons rfl (fun K hK => ?_) AllReadyIn.nil)
              · refine step_appendIn (by rfl) _ _ 28 (by rfl) Tryd.underlying28 gi gz0 gz1 gz2 rfl (by rfl) H.rb (by rfl) TB (by rfl) lenb1 lenb2 H.sz ?_
                intro ub' W' hr hg
                refine hK _ _ ?_
                clear hK K
                have H := H.appB hr hg
                clear hr hg TB
                go_simp
                refine wpAnyIn_ready (rs := [8]) (by kernel_rfl) (by simp) (AllReadyIn.cons rfl (fun K hK => ?_) AllReadyIn.nil)
                obtain ⟨ga, cpa, rfl⟩ := ownsRow_succ (by simpa using H.ra)
                have cq := H.ba.cell
                have fq := H.ba.frozen
                go_simp
                refine hK _ _ ?_
                clear hK K cq fq
                have H := H.setA (.slice (some ⟨ga, 0, none⟩) (ka.length + 1) cpa)
                refine wpAnyIn_ready (rs := [9]) (by kernel_rfl) (by simp) (AllReadyIn.cons rfl (fun K hK => ?_) AllReadyIn.nil)
                obtain ⟨gb, cpb, rfl⟩ := ownsRow_succ (by simpa using H.rb)
                have cq := H.bb.cell
                have fq := H.bb.frozen
                go_simp
                refine hK _ _ ?_
                clear hK K cq fq
                have H := H.setB (.slice (some ⟨gb, 0, none⟩) (kb.length + 1) cpb)
                refine wpAnyIn_done (by kernel_rfl) ?_ _
                exact ⟨rfl, _, _, _, _, rfl, H⟩
    · have cq := H.bb.cell
      go_simp
      refine hK _ _ ?_
      clear hK K cq
      refine wpAnyIn_ready (rs := [0, 2, 6]) (by kernel_rfl) (by simp) (AllReadyIn.cons rfl (fun K hK => ?_) (AllReadyIn.cons rfl (fun K hK => ?_) (AllReadyIn.cons rfl (fun K hK => ?_) AllReadyIn.nil)))
      · have cq := H.ba.cell
        go_simp
        refine hK _ _ ?_
        clear hK K cq
        refine wpAnyIn_ready (rs := [2, 6]) (by kernel_rfl) (by simp) (AllReadyIn.cons rfl (fun K hK => ?_) (AllReadyIn.cons rfl (fun K hK => ?_) AllReadyIn.nil))
        · go_simp
          refine hK _ _ ?_
          clear hK K
          obtain ⟨H, TA⟩ := H.temp 3 (.int .i64 (k : Int))
          try simp only [World.size_alloc] at TA
          refine wpAnyIn_ready (rs := [3, 6]) (by kernel_rfl) (by simp) (AllReadyIn.cons rfl (fun K hK => ?_) (AllReadyIn.cons rfl (fun K hK => ?_) AllReadyIn.nil))
          · refine step_appendIn (by rfl) _ _ 31 (by rfl) Tryd.underlying31 hi hz0 hz1 hz2 rfl (by rfl) H.ra (by rfl) TA (by rfl) lena1 lena2 H.sz ?_
            intro ua' W' hr hg
            refine hK _ _ ?_
            clear hK K
            have H := H.appA hr hg
            clear hr hg TA
            go_simp
            refine wpAnyIn_ready (rs := [6]) (by kernel_rfl) (by simp) (AllReadyIn.cons rfl (fun K hK => ?_) AllReadyIn.nil)
            · go_simp
              refine hK _ _ ?_
              clear hK K
              obtain ⟨H, TB⟩ := H.temp 22 (.slice ya yn yc)
              try simp only [World.size_alloc] at TB
              refine wpAnyIn_ready (rs := [7]) (by kernel_rfl) (by simp) (AllReadyIn.cons rfl (fun K hK => ?_) AllReadyIn.nil)
              · refine step_appendIn (by rfl) _ _ 28 (by rfl) Tryd.underlying28 gi gz0 gz1 gz2 rfl (by rfl) H.rb (by rfl) TB (by rfl) lenb1 lenb2 H.sz ?_
                intro ub' W' hr hg
                refine hK _ _ ?_
                clear hK K
                have H := H.appB hr hg
                clear hr hg TB
                go_simp
                refine wpAnyIn_ready (rs := [8]) (by kernel_rfl) (by simp) (AllReadyIn.cons rfl (fun K hK => ?_) AllReadyIn.nil)
                obtain ⟨ga, cpa, rfl⟩ := ownsRow_succ (by simpa using H.ra)
                have cq := H.ba.cell
                have fq := H.ba.frozen
                go_simp
                refine hK _ _ ?_
                clear hK K cq fq
                have H := H.setA (.slice (some ⟨ga, 0, none⟩) (ka.length + 1) cpa)
                refine wpAnyIn_ready (rs := [9]) (by kernel_rfl) (by simp) (AllReadyIn.cons rfl (fun K hK => ?_) AllReadyIn.nil)
                obtain ⟨gb, cpb, rfl⟩ := ownsRow_succ (by simpa using H.rb)
                have cq := H.bb.cell
                have fq := H.bb.frozen
                go_simp
                refine hK _ _ ?_
                clear hK K cq fq
                have H := H.setB (.slice (some ⟨gb, 0, none⟩) (kb.length + 1) cpb)
                refine wpAnyIn_done (by kernel_rfl) ?_ _
                exact ⟨rfl, _, _, _, _, rfl, H⟩
          · go_simp
            refine hK _ _ ?_
            clear hK K
            obtain ⟨H, TB⟩ := H.temp 22 (.slice ya yn yc)
            try simp only [World.size_alloc] at TB
            have TA := TA.alloc (.cells #[(.slice ya yn yc)] 22)
            refine wpAnyIn_ready (rs := [3]) (by kernel_rfl) (by simp) (AllReadyIn.cons rfl (fun K hK => ?_) AllReadyIn.nil)
            · refine step_appendIn (by rfl) _ _ 31 (by rfl) Tryd.underlying31 hi hz0 hz1 hz2 rfl (by rfl) H.ra (by rfl) TA (by rfl) lena1 lena2 H.sz ?_
              intro ua' W' hr hg
              refine hK _ _ ?_
              clear hK K
              have TB := temp_kept TB H.ra hg (by decide)
              have H := H.appA hr hg
              clear hr hg TA
              go_simp
              refine wpAnyIn_ready (rs := [7]) (by kernel_rfl) (by simp) (AllReadyIn.cons rfl (fun K hK => ?_) AllReadyIn.nil)
              · refine step_appendIn (by rfl) _ _ 28 (by rfl) Tryd.underlying28 gi gz0 gz1 gz2 rfl (by rfl) H.rb (by rfl) TB (by rfl) lenb1 lenb2 H.sz ?_
                intro ub' W' hr hg
                refine hK _ _ ?_
                clear hK K
                have H := H.appB hr hg
                clear hr hg TB
                go_simp
                refine wpAnyIn_ready (rs := [8]) (by kernel_rfl) (by simp) (AllReadyIn.cons rfl (fun K hK => ?_) AllReadyIn.nil)
                obtain ⟨ga, cpa, rfl⟩ := ownsRow_succ (by simpa using H.ra)
                have cq := H.ba.cell
                have fq := H.ba.frozen
                go_simp
                refine hK _ _ ?_
                clear hK K cq fq
                have H := H.setA (.slice (some ⟨ga, 0, none⟩) (ka.length + 1) cpa)
                refine wpAnyIn_ready (rs := [9]) (by kernel_rfl) (by simp) (AllReadyIn.cons rfl (fun K hK => ?_) AllReadyIn.nil)
                obtain ⟨gb, cpb, rfl⟩ := ownsRow_succ (by simpa using H.rb)
                have cq := H.bb.cell
                have fq := H.bb.frozen
                go_simp
                refine hK _ _ ?_
                clear hK K cq fq
                have H := H.setB (.slice (some ⟨gb, 0, none⟩) (kb.length + 1) cpb)
                refine wpAnyIn_done (by kernel_rfl) ?_ _
                exact ⟨rfl, _, _, _, _, rfl, H⟩
        · go_simp
          refine hK _ _ ?_
          clear hK K
          obtain ⟨H, TB⟩ := H.temp 22 (.slice ya yn yc)
          try simp only [World.size_alloc] at TB
          refine wpAnyIn_ready (rs := [2]) (by kernel_rfl) (by simp) (AllReadyIn.cons rfl (fun K hK => ?_) AllReadyIn.nil)
          · go_simp
            refine hK _ _ ?_
            clear hK K
            obtain ⟨H, TA⟩ := H.temp 3 (.int .i64 (k : Int))
            try simp only [World.size_alloc] at TA
            have TB := TB.alloc (.cells #[(.int .i64 (k : Int))] 3)
            refine wpAnyIn_ready (rs := [3]) (by kernel_rfl) (by simp) (AllReadyIn.cons rfl (fun K hK => ?_) AllReadyIn.nil)
            · refine step_appendIn (by rfl) _ _ 31 (by rfl) Tryd.underlying31 hi hz0 hz1 hz2 rfl (by rfl) H.ra (by rfl) TA (by rfl) lena1 lena2 H.sz ?_
              intro ua' W' hr hg
              refine hK _ _ ?_
              clear hK K
              have TB := temp_kept TB H.ra hg (by decide)
              have H := H.appA hr hg
              clear hr hg TA
              go_simp
              refine wpAnyIn_ready (rs := [7]) (by kernel_rfl) (by simp) (AllReadyIn.cons rfl (fun K hK => ?_) AllReadyIn.nil)
              · refine step_appendIn (by rfl) _ _ 28 (by rfl) Tryd.underlying28 gi gz0 gz1 gz2 rfl (by rfl) H.rb (by rfl) TB (by rfl) lenb1 lenb2 H.sz ?_
                intro ub' W' hr hg
                refine hK _ _ ?_
                clear hK K
                have H := H.appB hr hg
                clear hr hg TB
                go_simp
                refine wpAnyIn_ready (rs := [8]) (by kernel_rfl) (by simp) (AllReadyIn.cons rfl (fun K hK => ?_) AllReadyIn.nil)
                obtain ⟨ga, cpa, rfl⟩ := ownsRow_succ (by simpa using H.ra)
                have cq := H.ba.cell
                have fq := H.ba.frozen
                go_simp
                refine hK _ _ ?_
                clear hK K cq fq
                have H := H.setA (.slice (some ⟨ga, 0, none⟩) (ka.length + 1) cpa)
                refine wpAnyIn_ready (rs := [9]) (by kernel_rfl) (by simp) (AllReadyIn.cons rfl (fun K hK => ?_) AllReadyIn.nil)
                obtain ⟨gb, cpb, rfl⟩ := ownsRow_succ (by simpa using H.rb)
                have cq := H.bb.cell
                have fq := H.bb.frozen
                go_simp
                refine hK _ _ ?_
                clear hK K cq fq
                have H := H.setB (.slice (some ⟨gb, 0, none⟩) (kb.length + 1) cpb)
                refine wpAnyIn_done (by kernel_rfl) ?_ _
                exact ⟨rfl, _, _, _, _, rfl, H⟩
      · go_simp
        refine hK _ _ ?_
        clear hK K
        obtain ⟨H, TA⟩ := H.temp 3 (.int .i64 (k : Int))
        try simp only [World.size_alloc] at TA
        refine wpAnyIn_ready (rs := [0, 6]) (by kernel_rfl) (by simp) (AllReadyIn.cons rfl (fun K hK => ?_) (AllReadyIn.cons rfl (fun K hK => ?_) AllReadyIn.nil))
        · have cq := H.ba.cell
          go_simp
          refine hK _ _ ?_
          clear hK K cq
          refine wpAnyIn_ready (rs := [3, 6]) (by kernel_rfl) (by simp) (AllReadyIn.cons rfl (fun K hK => ?_) (AllReadyIn.cons rfl (fun K hK => ?_) AllReadyIn.nil))
          · refine step_appendIn (by rfl) _ _ 31 (by rfl) Tryd.underlying31 hi hz0 hz1 hz2 rfl (by rfl) H.ra (by rfl) TA (by rfl) lena1 lena2 H.sz ?_
            intro ua' W' hr hg
            refine hK _ _ ?_
            clear hK K
            have H := H.appA hr hg
            clear hr hg TA
            go_simp
            refine wpAnyIn_ready (rs := [6]) (by kernel_rfl) (by simp) (AllReadyIn.cons rfl (fun K hK => ?_) AllReadyIn.nil)
            · go_simp
              refine hK _ _ ?_
              clear hK K
              obtain ⟨H, TB⟩ := H.temp 22 (.slice ya yn yc)
              try simp only [World.size_alloc] at TB
              refine wpAnyIn_ready (rs := [7]) (by kernel_rfl) (by simp) (AllReadyIn.cons rfl (fun K hK => ?_) AllReadyIn.nil)
              · refine step_appendIn (by rfl) _ _ 28 (by rfl) Tryd.underlying28 gi gz0 gz1 gz2 rfl (by rfl) H.rb (by rfl) TB (by rfl) lenb1 lenb2 H.sz ?_
                intro ub' W' hr hg
                refine hK _ _ ?_
                clear hK K
                have H := H.appB hr hg
                clear hr hg TB
                go_simp
                refine wpAnyIn_ready (rs := [8]) (by kernel_rfl) (by simp) (AllReadyIn.cons rfl (fun K hK => ?_) AllReadyIn.nil)
                obtain ⟨ga, cpa, rfl⟩ := ownsRow_succ (by simpa using H.ra)
                have cq := H.ba.cell
                have fq := H.ba.frozen
                go_simp
                refine hK _ _ ?_
                clear hK K cq fq
                have H := H.setA (.slice (some ⟨ga, 0, none⟩) (ka.length + 1) cpa)
                refine wpAnyIn_ready (rs := [9]) (by kernel_rfl) (by simp) (AllReadyIn.cons rfl (fun K hK => ?_) AllReadyIn.nil)
                obtain ⟨gb, cpb, rfl⟩ := ownsRow_succ (by simpa using H.rb)
                have cq := H.bb.cell
                have fq := H.bb.frozen
                go_simp
                refine hK _ _ ?_
                clear hK K cq fq
                have H := H.setB (.slice (some ⟨gb, 0, none⟩) (kb.length + 1) cpb)
                refine wpAnyIn_done (by kernel_rfl) ?_ _
                exact ⟨rfl, _, _, _, _, rfl, H⟩
          · go_simp
            refine hK _ _ ?_
            clear hK K
            obtain ⟨H, TB⟩ := H.temp 22 (.slice ya yn yc)
            try simp only [World.size_alloc] at TB
            have TA := TA.alloc (.cells #[(.slice ya yn yc)] 22)
            refine wpAnyIn_ready (rs := [3]) (by kernel_rfl) (by simp) (AllReadyIn.cons rfl (fun K hK => ?_) AllReadyIn.nil)
            · refine step_appendIn (by rfl) _ _ 31 (by rfl) Tryd.underlying31 hi hz0 hz1 hz2 rfl (by rfl) H.ra (by rfl) TA (by rfl) lena1 lena2 H.sz ?_
              intro ua' W' hr hg
              refine hK _ _ ?_
              clear hK K
              have TB := temp_kept TB H.ra hg (by decide)
              have H := H.appA hr hg
              clear hr hg TA
              go_simp
              refine wpAnyIn_ready (rs := [7]) (by kernel_rfl) (by simp) (AllReadyIn.cons rfl (fun K hK => ?_) AllReadyIn.nil)
              · refine step_appendIn (by rfl) _ _ 28 (by rfl) Tryd.underlying28 gi gz0 gz1 gz2 rfl (by rfl) H.rb (by rfl) TB (by rfl) lenb1 lenb2 H.sz ?_
                intro ub' W' hr hg
                refine hK _ _ ?_
                clear hK K
                have H := H.appB hr hg
                clear hr hg TB
                go_simp
                refine wpAnyIn_ready (rs := [8]) (by kernel_rfl) (by simp) (AllReadyIn.cons rfl (fun K hK => ?_) AllReadyIn.nil)
                obtain ⟨ga, cpa, rfl⟩ := ownsRow_succ (by simpa using H.ra)
                have cq := H.ba.cell
                have fq := H.ba.frozen
                go_simp
                refine hK _ _ ?_
                clear hK K cq fq
                have H := H.setA (.slice (some ⟨ga, 0, none⟩) (ka.length + 1) cpa)
                refine wpAnyIn_ready (rs := [9]) (by kernel_rfl) (by simp) (AllReadyIn.cons rfl (fun K hK => ?_) AllReadyIn.nil)
                obtain ⟨gb, cpb, rfl⟩ := ownsRow_succ (by simpa using H.rb)
                have cq := H.bb.cell
                have fq := H.bb.frozen
                go_simp
                refine hK _ _ ?_
                clear hK K cq fq
                have H := H.setB (.slice (some ⟨gb, 0, none⟩) (kb.length + 1) cpb)
                refine wpAnyIn_done (by kernel_rfl) ?_ _
                exact ⟨rfl, _, _, _, _, rfl, H⟩
        · go_simp
          refine hK _ _ ?_
          clear hK K
          obtain ⟨H, TB⟩ := H.temp 22 (.slice ya yn yc)
          try simp only [World.size_alloc] at TB
          have TA := TA.alloc (.cells #[(.slice ya yn yc)] 22)
          refine wpAnyIn_ready (rs := [0]) (by kernel_rfl) (by simp) (AllReadyIn.cons rfl (fun K hK => ?_) AllReadyIn.nil)
          · have cq := H.ba.cell
            go_simp
            refine hK _ _ ?_
            clear hK K cq
            refine wpAnyIn_ready (rs := [3]) (by kernel_rfl) (by simp) (AllReadyIn.cons rfl (fun K hK => ?_) AllReadyIn.nil)
            · refine step_appendIn (by rfl) _ _ 31 (by rfl) Tryd.underlying31 hi hz0 hz1 hz2 rfl (by rfl) H.ra (by rfl) TA (by rfl) lena1 lena2 H.sz ?_
              intro ua' W' hr hg
              refine hK _ _ ?_
              clear hK K
              have TB := temp_kept TB H.ra hg (by decide)
              have H := H.appA hr hg
              clear hr hg TA
              go_simp
              refine wpAnyIn_ready (rs := [7]) (by kernel_rfl) (by simp) (AllReadyIn.cons rfl (fun K hK => ?_) AllReadyIn.nil)
              · refine step_appendIn (by rfl) _ _ 28 (by rfl) Tryd.underlying28 gi gz0 gz1 gz2 rfl (by rfl) H.rb (by rfl) TB (by rfl) lenb1 lenb2 H.sz ?_
                intro ub' W' hr hg
                refine hK _ _ ?_
                clear hK K
                have H := H.appB hr hg
                clear hr hg TB
                go_simp
                refine wpAnyIn_ready (rs := [8]) (by kernel_rfl) (by simp) (AllReadyIn.cons rfl (fun K hK => ?_) AllReadyIn.nil)
                obtain ⟨ga, cpa, rfl⟩ := ownsRow_succ (by simpa using H.ra)
                have cq := H.ba.cell
                have fq := H.ba.frozen
                go_simp
                refine hK _ _ ?_
                clear hK K cq fq
                have H := H.setA (.slice (some ⟨ga, 0, none⟩) (ka.length + 1) cpa)
                refine wpAnyIn_ready (rs := [9]) (by kernel_rfl) (by simp) (AllReadyIn.cons rfl (fun K hK => ?_) AllReadyIn.nil)
                obtain ⟨gb, cpb, rfl⟩ := ownsRow_succ (by simpa using H.rb)
                have cq := H.bb.cell
                have fq := H.bb.frozen
                go_simp
                refine hK _ _ ?_
                clear hK K cq fq
                have H := H.setB (.slice (some ⟨gb, 0, none⟩) (kb.length + 1) cpb)
                refine wpAnyIn_done (by kernel_rfl) ?_ _
                exact ⟨rfl, _, _, _, _, rfl, H⟩
      · go_simp
        refine hK _ _ ?_
        clear hK K
        obtain ⟨H, TB⟩ := H.temp 22 (.slice ya yn yc)
        try simp only [World.size_alloc] at TB
        refine wpAnyIn_ready (rs := [0, 2]) (by kernel_rfl) (by simp) (AllReadyIn.cons rfl (fun K hK => ?_) (AllReadyIn.cons rfl (fun K hK => ?_) AllReadyIn.nil))
        · have cq := H.ba.cell
          go_simp
          refine hK _ _ ?_
          clear hK K cq
          refine wpAnyIn_ready (rs := [2]) (by kernel_rfl) (by simp) (AllReadyIn.cons rfl (fun K hK => ?_) AllReadyIn.nil)
          · go_simp
            refine hK _ _ ?_
            clear hK K
            obtain ⟨H, TA⟩ := H.temp 3 (.int .i64 (k : Int))
            try simp only [World.size_alloc] at TA
            have TB := TB.alloc (.cells #[(.int .i64 (k : Int))] 3)
            refine wpAnyIn_ready (rs := [3]) (by kernel_rfl) (by simp) (AllReadyIn.cons rfl (fun K hK => ?_) AllReadyIn.nil)
            · refine step_appendIn (by rfl) _ _ 31 (by rfl) Tryd.underlying31 hi hz0 hz1 hz2 rfl (by rfl) H.ra (by rfl) TA (by rfl) lena1 lena2 H.sz ?_
              intro ua' W' hr hg
              refine hK _ _ ?_
              clear hK K
              have TB := temp_kept TB H.ra hg (by decide)
              have H := H.appA hr hg
              clear hr hg TA
              go_simp
              refine wpAnyIn_ready (rs := [7]) (by kernel_rfl) (by simp) (AllReadyIn.cons rfl (fun K hK => ?_) AllReadyIn.nil)
              · refine step_appendIn (by rfl) _ _ 28 (by rfl) Tryd.underlying28 gi gz0 gz1 gz2 rfl (by rfl) H.rb (by rfl) TB (by rfl) lenb1 lenb2 H.sz ?_
                intro ub' W' hr hg
                refine hK _ _ ?_
                clear hK K
                have H := H.appB hr hg
                clear hr hg TB
                go_simp
                refine wpAnyIn_ready (rs := [8]) (by kernel_rfl) (by simp) (AllReadyIn.cons rfl (fun K hK => ?_) AllReadyIn.nil)
                obtain ⟨ga, cpa, rfl⟩ := ownsRow_succ (by simpa using H.ra)
                have cq := H.ba.cell
                have fq := H.ba.frozen
                go_simp
                refine hK _ _ ?_
                clear hK K cq fq
                have H := H.setA (.slice (some ⟨ga, 0, none⟩) (ka.length + 1) cpa)
                refine wpAnyIn_ready (rs := [9]) (by kernel_rfl) (by simp) (AllReadyIn.cons rfl (fun K hK => ?_) AllReadyIn.nil)
                obtain ⟨gb, cpb, rfl⟩ := ownsRow_succ (by simpa using H.rb)
                have cq := H.bb.cell
                have fq := H.bb.frozen
                go_simp
                refine hK _ _ ?_
                clear hK K cq fq
                have H := H.setB (.slice (some ⟨gb, 0, none⟩) (kb.length + 1) cpb)
                refine wpAnyIn_done (by kernel_rfl) ?_ _
                exact ⟨rfl, _, _, _, _, rfl, H⟩
        · go_simp
          refine hK _ _ ?_
          clear hK K
          obtain ⟨H, TA⟩ := H.temp 3 (.int .i64 (k : Int))
          try simp only [World.size_alloc] at TA
          have TB := TB.alloc (.cells #[(.int .i64 (k : Int))] 3)
          refine wpAnyIn_ready (rs := [0]) (by kernel_rfl) (by simp) (AllReadyIn.cons rfl (fun K hK => ?_) AllReadyIn.nil)
          · have cq := H.ba.cell
            go_simp
            refine hK _ _ ?_
            clear hK K cq
            refine wpAnyIn_ready (rs := [3]) (by kernel_rfl) (by simp) (AllReadyIn.cons rfl (fun K hK => ?_) AllReadyIn.nil)
            · refine step_appendIn (by rfl) _ _ 31 (by rfl) Tryd.underlying31 hi hz0 hz1 hz2 rfl (by rfl) H.ra (by rfl) TA (by rfl) lena1 lena2 H.sz ?_
              intro ua' W' hr hg
              refine hK _ _ ?_
              clear hK K
              have TB := temp_kept TB H.ra hg (by decide)
              have H := H.appA hr hg
              clear hr hg TA
              go_simp
              refine wpAnyIn_ready (rs := [7]) (by kernel_rfl) (by simp) (AllReadyIn.cons rfl (fun K hK => ?_) AllReadyIn.nil)
              · refine step_appendIn (by rfl) _ _ 28 (by rfl) Tryd.underlying28 gi gz0 gz1 gz2 rfl (by rfl) H.rb (by rfl) TB (by rfl) lenb1 lenb2 H.sz ?_
                intro ub' W' hr hg
                refine hK _ _ ?_
                clear hK K
                have H := H.appB hr hg
                clear hr hg TB
                go_simp
                refine wpAnyIn_ready (rs := [8]) (by kernel_rfl) (by simp) (AllReadyIn.cons rfl (fun K hK => ?_) AllReadyIn.nil)
                obtain ⟨ga, cpa, rfl⟩ := ownsRow_succ (by simpa using H.ra)
                have cq := H.ba.cell
                have fq := H.ba.frozen
                go_simp
                refine hK _ _ ?_
                clear hK K cq fq
                have H := H.setA (.slice (some ⟨ga, 0, none⟩) (ka.length + 1) cpa)
                refine wpAnyIn_ready (rs := [9]) (by kernel_rfl) (by simp) (AllReadyIn.cons rfl (fun K hK => ?_) AllReadyIn.nil)
                obtain ⟨gb, cpb, rfl⟩ := ownsRow_succ (by simpa using H.rb)
                have cq := H.bb.cell
                have fq := H.bb.frozen
                go_simp
                refine hK _ _ ?_
                clear hK K cq fq
                have H := H.setB (.slice (some ⟨gb, 0, none⟩) (kb.length + 1) cpb)
                refine wpAnyIn_done (by kernel_rfl) ?_ _
                exact ⟨rfl, _, _, _, _, rfl, H⟩
    · go_simp
      refine hK _ _ ?_
      clear hK K
      obtain ⟨H, TB⟩ := H.temp 22 (.slice ya yn yc)
      try simp only [World.size_alloc] at TB
      refine wpAnyIn_ready (rs := [0, 2, 4]) (by kernel_rfl) (by simp) (AllReadyIn.cons rfl (fun K hK => ?_) (AllReadyIn.cons rfl (fun K hK => ?_) (AllReadyIn.cons rfl (fun K hK => ?_) AllReadyIn.nil)))
      · have cq := H.ba.cell
        go_simp
        refine hK _ _ ?_
        clear hK K cq
        refine wpAnyIn_ready (rs := [2, 4]) (by kernel_rfl) (by simp) (AllReadyIn.cons rfl (fun K hK => ?_) (AllReadyIn.cons rfl (fun K hK => ?_) AllReadyIn.nil))
        · go_simp
          refine hK _ _ ?_
          clear hK K
          obtain ⟨H, TA⟩ := H.temp 3 (.int .i64 (k : Int))
          try simp only [World.size_alloc] at TA
          have TB := TB.alloc (.cells #[(.int .i64 (k : Int))] 3)
          refine wpAnyIn_ready (rs := [3, 4]) (by kernel_rfl) (by simp) (AllReadyIn.cons rfl (fun K hK => ?_) (AllReadyIn.cons rfl (fun K hK => ?_) AllReadyIn.nil))
          · refine step_appendIn (by rfl) _ _ 31 (by rfl) Tryd.underlying31 hi hz0 hz1 hz2 rfl (by rfl) H.ra (by rfl) TA (by rfl) lena1 lena2 H.sz ?_
            intro ua' W' hr hg
            refine hK _ _ ?_
            clear hK K
            have TB := temp_kept TB H.ra hg (by decide)
            have H := H.appA hr hg
            clear hr hg TA
            go_simp
            refine wpAnyIn_ready (rs := [4]) (by kernel_rfl) (by simp) (AllReadyIn.cons rfl (fun K hK => ?_) AllReadyIn.nil)
            · have cq := H.bb.cell
              go_simp
              refine hK _ _ ?_
              clear hK K cq
              refine wpAnyIn_ready (rs := [7]) (by kernel_rfl) (by simp) (AllReadyIn.cons rfl (fun K hK => ?_) AllReadyIn.nil)
              · refine step_appendIn (by rfl) _ _ 28 (by rfl) Tryd.underlying28 gi gz0 gz1 gz2 rfl (by rfl) H.rb (by rfl) TB (by rfl) lenb1 lenb2 H.sz ?_
                intro ub' W' hr hg
                refine hK _ _ ?_
                clear hK K
                have H := H.appB hr hg
                clear hr hg TB
                go_simp
                refine wpAnyIn_ready (rs := [8]) (by kernel_rfl) (by simp) (AllReadyIn.cons rfl (fun K hK => ?_) AllReadyIn.nil)
                obtain ⟨ga, cpa, rfl⟩ := ownsRow_succ (by simpa using H.ra)
                have cq := H.ba.cell
                have fq := H.ba.frozen
                go_simp
                refine hK _ _ ?_
                clear hK K cq fq
                have H := H.setA (.slice (some ⟨ga, 0, none⟩) (ka.length + 1) cpa)
                refine wpAnyIn_ready (rs := [9]) (by kernel_rfl) (by simp) (AllReadyIn.cons rfl (fun K hK => ?_) AllReadyIn.nil)
                obtain ⟨gb, cpb, rfl⟩ := ownsRow_succ (by simpa using H.rb)
                have cq := H.bb.cell
                have fq := H.bb.frozen
                go_simp
                refine hK _ _ ?_
                clear hK K cq fq
                have H := H.setB (.slice (some ⟨gb, 0, none⟩) (kb.length + 1) cpb)
                refine wpAnyIn_done (by kernel_rfl) ?_ _
                exact ⟨rfl, _, _, _, _, rfl, H⟩
          · have cq := H.bb.cell
            go_simp
            refine hK _ _ ?_
            clear hK K cq
            refine wpAnyIn_ready (rs := [3]) (by kernel_rfl) (by simp) (AllReadyIn.cons rfl (fun K hK => ?_) AllReadyIn.nil)
            · refine step_appendIn (by rfl) _ _ 31 (by rfl) Tryd.underlying31 hi hz0 hz1 hz2 rfl (by rfl) H.ra (by rfl) TA (by rfl) lena1 lena2 H.sz ?_
              intro ua' W' hr hg
              refine hK _ _ ?_
              clear hK K
              have TB := temp_kept TB H.ra hg (by decide)
              have H := H.appA hr hg
              clear hr hg TA
              go_simp
              refine wpAnyIn_ready (rs := [7]) (by kernel_rfl) (by simp) (AllReadyIn.cons rfl (fun K hK => ?_) AllReadyIn.nil)
              · refine step_appendIn (by rfl) _ _ 28 (by rfl) Tryd.underlying28 gi gz0 gz1 gz2 rfl (by rfl) H.rb (by rfl) TB (by rfl) lenb1 lenb2 H.sz ?_
                intro ub' W' hr hg
                refine hK _ _ ?_
                clear hK K
                have H := H.appB hr hg
                clear hr hg TB
                go_simp
                refine wpAnyIn_ready (rs := [8]) (by kernel_rfl) (by simp) (AllReadyIn.cons rfl (fun K hK => ?_) AllReadyIn.nil)
                obtain ⟨ga, cpa, rfl⟩ := ownsRow_succ (by simpa using H.ra)
                have cq := H.ba.cell
                have fq := H.ba.frozen
                go_simp
                refine hK _ _ ?_
                clear hK K cq fq
                have H := H.setA (.slice (some ⟨ga, 0, none⟩) (ka.length + 1) cpa)
                refine wpAnyIn_ready (rs := [9]) (by kernel_rfl) (by simp) (AllReadyIn.cons rfl (fun K hK => ?_) AllReadyIn.nil)
                obtain ⟨gb, cpb, rfl⟩ := ownsRow_succ (by simpa using H.rb)
                have cq := H.bb.cell
                have fq := H.bb.frozen
                go_simp
                refine hK _ _ ?_
                clear hK K cq fq
                have H := H.setB (.slice (some ⟨gb, 0, none⟩) (kb.length + 1) cpb)
                refine wpAnyIn_done (by kernel_rfl) ?_ _
                exact ⟨rfl, _, _, _, _, rfl, H⟩
        · have cq := H.bb.cell
          go_simp
          refine hK _ _ ?_
          clear hK K cq
          refine wpAnyIn_ready (rs := [2]) (by kernel_rfl) (by simp) (AllReadyIn.cons rfl (fun K hK => ?_) AllReadyIn.nil)
          · go_simp
            refine hK _ _ ?_
            clear hK K
            obtain ⟨H, TA⟩ := H.temp 3 (.int .i64 (k : Int))
            try simp only [World.size_alloc] at TA
            have TB := TB.alloc (.cells #[(.int .i64 (k : Int))] 3)
            refine wpAnyIn_ready (rs := [3]) (by kernel_rfl) (by simp) (AllReadyIn.cons rfl (fun K hK => ?_) AllReadyIn.nil)
            · refine step_appendIn (by rfl) _ _ 31 (by rfl) Tryd.underlying31 hi hz0 hz1 hz2 rfl (by rfl) H.ra (by rfl) TA (by rfl) lena1 lena2 H.sz ?_
              intro ua' W' hr hg
              refine hK _ _ ?_
              clear hK K
              have TB := temp_kept TB H.ra hg (by decide)
              have H := H.appA hr hg
              clear hr hg TA
              go_simp
              refine wpAnyIn_ready (rs := [7]) (by kernel_rfl) (by simp) (AllReadyIn.cons rfl (fun K hK => ?_) AllReadyIn.nil)
              · refine step_appendIn (by rfl) _ _ 28 (by rfl) Tryd.underlying28 gi gz0 gz1 gz2 rfl (by rfl) H.rb (by rfl) TB (by rfl) lenb1 lenb2 H.sz ?_
                intro ub' W' hr hg
                refine hK _ _ ?_
                clear hK K
                have H := H.appB hr hg
                clear hr hg TB
                go_simp
                refine wpAnyIn_ready (rs := [8]) (by kernel_rfl) (by simp) (AllReadyIn.cons rfl (fun K hK => ?_) AllReadyIn.nil)
                obtain ⟨ga, cpa, rfl⟩ := ownsRow_succ (by simpa using H.ra)
                have cq := H.ba.cell
                have fq := H.ba.frozen
                go_simp
                refine hK _ _ ?_
                clear hK K cq fq
                have H := H.setA (.slice (some ⟨ga, 0, none⟩) (ka.length + 1) cpa)
                refine wpAnyIn_ready (rs := [9]) (by kernel_rfl) (by simp) (AllReadyIn.cons rfl (fun K hK => ?_) AllReadyIn.nil)
                obtain ⟨gb, cpb, rfl⟩ := ownsRow_succ (by simpa using H.rb)
                have cq := H.bb.cell
                have fq := H.bb.frozen
                go_simp
                refine hK _ _ ?_
                clear hK K cq fq
                have H := H.setB (.slice (some ⟨gb, 0, none⟩) (kb.length + 1) cpb)
                refine wpAnyIn_done (by kernel_rfl) ?_ _
                exact ⟨rfl, _, _, _, _, rfl, H⟩
      · go_simp
        refine hK _ _ ?_
        clear hK K
        obtain ⟨H, TA⟩ := H.temp 3 (.int .i64 (k : Int))
        try simp only [World.size_alloc] at TA
        have TB := TB.alloc (.cells #[(.int .i64 (k : Int))] 3)
        refine wpAnyIn_ready (rs := [0, 4]) (by kernel_rfl) (by simp) (AllReadyIn.cons rfl (fun K hK => ?_) (AllReadyIn.cons rfl (fun K hK => ?_) AllReadyIn.nil))
        · have cq := H.ba.cell
          go_simp
          refine hK _ _ ?_
          clear hK K cq
          refine wpAnyIn_ready (rs := [3, 4]) (by kernel_rfl) (by simp) (AllReadyIn.cons rfl (fun K hK => ?_) (AllReadyIn.cons rfl (fun K hK => ?_) AllReadyIn.nil))
          · refine step_appendIn (by rfl) _ _ 31 (by rfl) Tryd.underlying31 hi hz0 hz1 hz2 rfl (by rfl) H.ra (by rfl) TA (by rfl) lena1 lena2 H.sz ?_
            intro ua' W' hr hg
            refine hK _ _ ?_
            clear hK K
            have TB := temp_kept TB H.ra hg (by decide)
            have H := H.appA hr hg
            clear hr hg TA
            go_simp
            refine wpAnyIn_ready (rs := [4]) (by kernel_rfl) (by simp) (AllReadyIn.cons rfl (fun K hK => ?_) AllReadyIn.nil)
            · have cq := H.bb.cell
              go_simp
              refine hK _ _ ?_
              clear hK K cq
              refine wpAnyIn_ready (rs := [7]) (by kernel_rfl) (by simp) (AllReadyIn.cons rfl (fun K hK => ?_) AllReadyIn.nil)
              · refine step_appendIn (by rfl) _ _ 28 (by rfl) Tryd.underlying28 gi gz0 gz1 gz2 rfl (by rfl) H.rb (by rfl) TB (by rfl) lenb1 lenb2 H.sz ?_
                intro ub' W' hr hg
                refine hK _ _ ?_
                clear hK K
                have H := H.appB hr hg
                clear hr hg TB
                go_simp
                refine wpAnyIn_ready (rs := [8]) (by kernel_rfl) (by simp) (AllReadyIn.cons rfl (fun K hK => ?_) AllReadyIn.nil)
                obtain ⟨ga, cpa, rfl⟩ := ownsRow_succ (by simpa using H.ra)
                have cq := H.ba.cell
                have fq := H.ba.frozen
                go_simp
                refine hK _ _ ?_
                clear hK K cq fq
                have H := H.setA (.slice (some ⟨ga, 0, none⟩) (ka.length + 1) cpa)
                refine wpAnyIn_ready (rs := [9]) (by kernel_rfl) (by simp) (AllReadyIn.cons rfl (fun K hK => ?_) AllReadyIn.nil)
                obtain ⟨gb, cpb, rfl⟩ := ownsRow_succ (by simpa using H.rb)
                have cq := H.bb.cell
                have fq := H.bb.frozen
                go_simp
                refine hK _ _ ?_
                clear hK K cq fq
                have H := H.setB (.slice (some ⟨gb, 0, none⟩) (kb.length + 1) cpb)
                refine wpAnyIn_done (by kernel_rfl) ?_ _
                exact ⟨rfl, _, _, _, _, rfl, H⟩
          · have cq := H.bb.cell
            go_simp
            refine hK _ _ ?_
            clear hK K cq
            refine wpAnyIn_ready (rs := [3]) (by kernel_rfl) (by simp) (AllReadyIn.cons rfl (fun K hK => ?_) AllReadyIn.nil)
            · refine step_appendIn (by rfl) _ _ 31 (by rfl) Tryd.underlying31 hi hz0 hz1 hz2 rfl (by rfl) H.ra (by rfl) TA (by rfl) lena1 lena2 H.sz ?_
              intro ua' W' hr hg
              refine hK _ _ ?_
              clear hK K
              have TB := temp_kept TB H.ra hg (by decide)
              have H := H.appA hr hg
              clear hr hg TA
              go_simp
              refine wpAnyIn_ready (rs := [7]) (by kernel_rfl) (by simp) (AllReadyIn.cons rfl (fun K hK => ?_) AllReadyIn.nil)
              · refine step_appendIn (by rfl) _ _ 28 (by rfl) Tryd.underlying28 gi gz0 gz1 gz2 rfl (by rfl) H.rb (by rfl) TB (by rfl) lenb1 lenb2 H.sz ?_
                intro ub' W' hr hg
                refine hK _ _ ?_
                clear hK K
                have H := H.appB hr hg
                clear hr hg TB
                go_simp
                refine wpAnyIn_ready (rs := [8]) (by kernel_rfl) (by simp) (AllReadyIn.cons rfl (fun K hK => ?_) AllReadyIn.nil)
                obtain ⟨ga, cpa, rfl⟩ := ownsRow_succ (by simpa using H.ra)
                have cq := H.ba.cell
                have fq := H.ba.frozen
                go_simp
                refine hK _ _ ?_
                clear hK K cq fq
                have H := H.setA (.slice (some ⟨ga, 0, none⟩) (ka.length + 1) cpa)
                refine wpAnyIn_ready (rs := [9]) (by kernel_rfl) (by simp) (AllReadyIn.cons rfl (fun K hK => ?_) AllReadyIn.nil)
                obtain ⟨gb, cpb, rfl⟩ := ownsRow_succ (by simpa using H.rb)
                have cq := H.bb.cell
                have fq := H.bb.frozen
                go_simp
                refine hK _ _ ?_
                clear hK K cq fq
                have H := H.setB (.slice (some ⟨gb, 0, none⟩) (kb.length + 1) cpb)
                refine wpAnyIn_done (by kernel_rfl) ?_ _
                exact ⟨rfl, _, _, _, _, rfl, H⟩
        · have cq := H.bb.cell
          go_simp
          refine hK _ _ ?_
          clear hK K cq
          refine wpAnyIn_ready (rs := [0]) (by kernel_rfl) (by simp) (AllReadyIn.cons rfl (fun K hK => ?_) AllReadyIn.nil)
          · have cq := H.ba.cell
            go_simp
            refine hK _ _ ?_
            clear hK K cq
            refine wpAnyIn_ready (rs := [3]) (by kernel_rfl) (by simp) (AllReadyIn.cons rfl (fun K hK => ?_) AllReadyIn.nil)
            · refine step_appendIn (by rfl) _ _ 31 (by rfl) Tryd.underlying31 hi hz0 hz1 hz2 rfl (by rfl) H.ra (by rfl) TA (by rfl) lena1 lena2 H.sz ?_
              intro ua' W' hr hg
              refine hK _ _ ?_
              clear hK K
              have TB := temp_kept TB H.ra hg (by decide)
              have H := H.appA hr hg
              clear hr hg TA
              go_simp
              refine wpAnyIn_ready (rs := [7]) (by kernel_rfl) (by simp) (AllReadyIn.cons rfl (fun K hK => ?_) AllReadyIn.nil)
              · refine step_appendIn (by rfl) _ _ 28 (by rfl) Tryd.underlying28 gi gz0 gz1 gz2 rfl (by rfl) H.rb (by rfl) TB (by rfl) lenb1 lenb2 H.sz ?_
                intro ub' W' hr hg
                refine hK _ _ ?_
                clear hK K
                have H := H.appB hr hg
                clear hr hg TB
                go_simp
                refine wpAnyIn_ready (rs := [8]) (by kernel_rfl) (by simp) (AllReadyIn.cons rfl (fun K hK => ?_) AllReadyIn.nil)
                obtain ⟨ga, cpa, rfl⟩ := ownsRow_succ (by simpa using H.ra)
                have cq := H.ba.cell
                have fq := H.ba.frozen
                go_simp
                refine hK _ _ ?_
                clear hK K cq fq
                have H := H.setA (.slice (some ⟨ga, 0, none⟩) (ka.length + 1) cpa)
                refine wpAnyIn_ready (rs := [9]) (by kernel_rfl) (by simp) (AllReadyIn.cons rfl (fun K hK => ?_) AllReadyIn.nil)
                obtain ⟨gb, cpb, rfl⟩ := ownsRow_succ (by simpa using H.rb)
                have cq := H.bb.cell
                have fq := H.bb.frozen
                go_simp
                refine hK _ _ ?_
                clear hK K cq fq
                have H := H.setB (.slice (some ⟨gb, 0, none⟩) (kb.length + 1) cpb)
                refine wpAnyIn_done (by kernel_rfl) ?_ _
                exact ⟨rfl, _, _, _, _, rfl, H⟩
      · have cq := H.bb.cell
        go_simp
        refine hK _ _ ?_
        clear hK K cq
        refine wpAnyIn_ready (rs := [0, 2]) (by kernel_rfl) (by simp) (AllReadyIn.cons rfl (fun K hK => ?_) (AllReadyIn.cons rfl (fun K hK => ?_) AllReadyIn.nil))
        · have cq := H.ba.cell
          go_simp
          refine hK _ _ ?_
          clear hK K cq
          refine wpAnyIn_ready (rs := [2]) (by kernel_rfl) (by simp) (AllReadyIn.cons rfl (fun K hK => ?_) AllReadyIn.nil)
          · go_simp
            refine hK _ _ ?_
            clear hK K
            obtain ⟨H, TA⟩ := H.temp 3 (.int .i64 (k : Int))
            try simp only [World.size_alloc] at TA
            have TB := TB.alloc (.cells #[(.int .i64 (k : Int))] 3)
            refine wpAnyIn_ready (rs := [3]) (by kernel_rfl) (by simp) (AllReadyIn.cons rfl (fun K hK => ?_) AllReadyIn.nil)
            · refine step_appendIn (by rfl) _ _ 31 (by rfl) Tryd.underlying31 hi hz0 hz1 hz2 rfl (by rfl) H.ra (by rfl) TA (by rfl) lena1 lena2 H.sz ?_
              intro ua' W' hr hg
              refine hK _ _ ?_
              clear hK K
              have TB := temp_kept TB H.ra hg (by decide)
              have H := H.appA hr hg
              clear hr hg TA
              go_simp
              refine wpAnyIn_ready (rs := [7]) (by kernel_rfl) (by simp) (AllReadyIn.cons rfl (fun K hK => ?_) AllReadyIn.nil)
              · refine step_appendIn (by rfl) _ _ 28 (by rfl) Tryd.underlying28 gi gz0 gz1 gz2 rfl (by rfl) H.rb (by rfl) TB (by rfl) lenb1 lenb2 H.sz ?_
                intro ub' W' hr hg
                refine hK _ _ ?_
                clear hK K
                have H := H.appB hr hg
                clear hr hg TB
                go_simp
                refine wpAnyIn_ready (rs := [8]) (by kernel_rfl) (by simp) (AllReadyIn.cons rfl (fun K hK => ?_) AllReadyIn.nil)
                obtain ⟨ga, cpa, rfl⟩ := ownsRow_succ (by simpa using H.ra)
                have cq := H.ba.cell
                have fq := H.ba.frozen
                go_simp
                refine hK _ _ ?_
                clear hK K cq fq
                have H := H.setA (.slice (some ⟨ga, 0, none⟩) (ka.length + 1) cpa)
                refine wpAnyIn_ready (rs := [9]) (by kernel_rfl) (by simp) (AllReadyIn.cons rfl (fun K hK => ?_) AllReadyIn.nil)
                obtain ⟨gb, cpb, rfl⟩ := ownsRow_succ (by simpa using H.rb)
                have cq := H.bb.cell
                have fq := H.bb.frozen
                go_simp
                refine hK _ _ ?_
                clear hK K cq fq
                have H := H.setB (.slice (some ⟨gb, 0, none⟩) (kb.length + 1) cpb)
                refine wpAnyIn_done (by kernel_rfl) ?_ _
                exact ⟨rfl, _, _, _, _, rfl, H⟩
        · go_simp
          refine hK _ _ ?_
          clear hK K
          obtain ⟨H, TA⟩ := H.temp 3 (.int .i64 (k : Int))
          try simp only [World.size_alloc] at TA
          have TB := TB.alloc (.cells #[(.int .i64 (k : Int))] 3)
          refine wpAnyIn_ready (rs := [0]) (by kernel_rfl) (by simp) (AllReadyIn.cons rfl (fun K hK => ?_) AllReadyIn.nil)
          · have cq := H.ba.cell
            go_simp
            refine hK _ _ ?_
            clear hK K cq
            refine wpAnyIn_ready (rs := [3]) (by kernel_rfl) (by simp) (AllReadyIn.cons rfl (fun K hK => ?_) AllReadyIn.nil)
            · refine step_appendIn (by rfl) _ _ 31 (by rfl) Tryd.underlying31 hi hz0 hz1 hz2 rfl (by rfl) H.ra (by rfl) TA (by rfl) lena1 lena2 H.sz ?_
              intro ua' W' hr hg
              refine hK _ _ ?_
              clear hK K
              have TB := temp_kept TB H.ra hg (by decide)
              have H := H.appA hr hg
              clear hr hg TA
              go_simp
              refine wpAnyIn_ready (rs := [7]) (by kernel_rfl) (by simp) (AllReadyIn.cons rfl (fun K hK => ?_) AllReadyIn.nil)
              · refine step_appendIn (by rfl) _ _ 28 (by rfl) Tryd.underlying28 gi gz0 gz1 gz2 rfl (by rfl) H.rb (by rfl) TB (by rfl) lenb1 lenb2 H.sz ?_
                intro ub' W' hr hg
                refine hK _ _ ?_
                clear hK K
                have H := H.appB hr hg
                clear hr hg TB
                go_simp
                refine wpAnyIn_ready (rs := [8]) (by kernel_rfl) (by simp) (AllReadyIn.cons rfl (fun K hK => ?_) AllReadyIn.nil)
                obtain ⟨ga, cpa, rfl⟩ := ownsRow_succ (by simpa using H.ra)
                have cq := H.ba.cell
                have fq := H.ba.frozen
                go_simp
                refine hK _ _ ?_
                clear hK K cq fq
                have H := H.setA (.slice (some ⟨ga, 0, none⟩) (ka.length + 1) cpa)
                refine wpAnyIn_ready (rs := [9]) (by kernel_rfl) (by simp) (AllReadyIn.cons rfl (fun K hK => ?_) AllReadyIn.nil)
                obtain ⟨gb, cpb, rfl⟩ := ownsRow_succ (by simpa using H.rb)
                have cq := H.bb.cell
                have fq := H.bb.frozen
                go_simp
                refine hK _ _ ?_
                clear hK K cq fq
                have H := H.setB (.slice (some ⟨gb, 0, none⟩) (kb.length + 1) cpb)
                refine wpAnyIn_done (by kernel_rfl) ?_ _
                exact ⟨rfl, _, _, _, _, rfl, H⟩
    rintro a1 W1 ⟨ta, tb, ua, ub, rfl, H1⟩
    obtain ⟨hB, ht, hka, hlb, hla, he, hy⟩ := HH.out
    obtain ⟨ga, cpa, rfl⟩ := ownsRow_succ (by simpa using H1.ra)
    have ca := H1.ba.cell
    have cn := H1.bn.cell
    have HH1 := Lib.hid H1
    have H3 := Lib.hid (And.intro ht (And.intro hka (And.intro hla (And.intro hlb (And.intro hB (And.intro he hy))))))
    rw [hla] at ca
    clear H1 H HH hB ht hka hla hlb he hy
    gi_wp2
    all_goals
      obtain ⟨ht, hka, hla, hlb, hB, he, hy⟩ := H3.out
      have H4 := HH1.out
      have e1 : atsV (pre ++ [(k, r)]) = ka ++ [(.int .i64 (k : Int) : Value)] := by rw [hka]; simp [atsV]
      have e2 : (pre ++ [(k, r)]).map (fun p : Nat × List UInt8 => p.2) = pre.map (fun p => p.2) ++ [r] := by simp
      have e3 := each_kt (he.snoc hy) H4.kt (by decide)
    · have hq : ((pre.length : Int) + 1 == (N : Int)) = true := by first | assumption | fail
      have hq' : pre.length + 1 = N := by have := eq_of_beq hq; omega
      exact ⟨H4.kt.more (by simp), ⟨⟨_, H4.ba, by rw [e1]; exact H4.ra⟩, ⟨_, ⟨_, H4.bb, H4.rb⟩, by rw [e2]; exact e3⟩, H4.bn, hB.trans H4.bl⟩, rfl, by simp; omega⟩
    · have hq : ((pre.length : Int) + 1 == (N : Int)) = false := by first | assumption | (simp at *; omega) | fail
      have hq' : pre.length + 1 ≠ N := by intro e; rw [← e] at hq; simp at hq
      exact ⟨H4.kt.more (by simp), ⟨⟨_, H4.ba, by rw [e1]; exact H4.ra⟩, ⟨_, ⟨_, H4.bb, H4.rb⟩, by rw [e2]; exact e3⟩, H4.bn, hB.trans H4.bl⟩, by simp; omega⟩
  case done =>
    rintro D W hD ⟨⟨⟨va, hva, hra⟩, ⟨vs, ⟨vb, hvb, hrb⟩, he⟩, hn, hB⟩, hlt⟩ hK
    have ca := hva.cell
    have cb := hvb.cell
    have hm : Tryd.prog.follows .mixedOrders = true := by kernel_rfl
    have e : xs.take ((N : Int).toNat) = xs := List.take_of_length_le (by simp; omega)
    gi_wp2
    gi_region_o
    gi_wp2
    refine ⟨by simp, .inl ⟨_, _, rfl, run_takeDeferred (show W.drew.heap[D]? = _ from hK), ?_⟩⟩
    have hK' : W.drew.heap[D]? = some (.deferred (some [])) := hK
    have hra' : W.drew.ownsRow (w.heap.size + 3) 3 1 va _ _ := hra
    have hrb' : W.drew.ownsRow (w.heap.size + 3) 22 1 vb _ _ := hrb
    have he' : Each 5 (w.heap.size + 3) W.drew vs _ := ⟨he.len, he.own⟩
    refine ⟨_, results_tmp2 rfl _ _ _, va, vb, rfl, ?_, ?_, (hB.trans (Below.drewsN (Below.refl _ W) 1)).trans (belowK_b (w := w) (Nat.le_refl _) W.drew D _ _ (by simp at hD; omega) hK' rfl rfl)⟩
    · rw [e]; exact row_mono (ownsRow_putObj hra' _ hK' rfl) (by omega)
    · rw [e]; exact LRd.of_row (ownsRow_putObj hrb' _ hK' rfl) (he'.kept (grownBy_putObj' _ _ _) (fun i h1 => own_ownT (Tw := fun _ => False) (fun h => h) (he'.own i h1 (by rw [← he'.len]; exact h1)) (fun r e => by cases e; exact ⟨_, hK', .inl rfl⟩)))
  case stop =>
    rintro D c pre W hD ⟨t, ht⟩ ⟨⟨⟨va, hva, hra⟩, ⟨vs, ⟨vb, hvb, hrb⟩, he⟩, hn, hB⟩, rfl, hlen⟩ hK
    have ca := hva.cell
    have cb := hvb.cell
    have hm : Tryd.prog.follows .mixedOrders = true := by kernel_rfl
    have e : xs.take ((N : Int).toNat) = pre := by rw [ht]; simp [← hlen]
    gi_wp2
    gi_region_o
    gi_wp2
    refine ⟨by simp, .inl ⟨_, _, rfl, run_takeDeferred (show W.drew.heap[D]? = _ from hK), ?_⟩⟩
    have hK' : W.drew.heap[D]? = some (.deferred (some [])) := hK
    have hra' : W.drew.ownsRow (w.heap.size + 3) 3 1 va _ _ := hra
    have hrb' : W.drew.ownsRow (w.heap.size + 3) 22 1 vb _ _ := hrb
    have he' : Each 5 (w.heap.size + 3) W.drew vs _ := ⟨he.len, he.own⟩
    refine ⟨_, results_tmp2 rfl _ _ _, va, vb, rfl, ?_, ?_, (hB.trans (Below.drewsN (Below.refl _ W) 1)).trans (belowK_b (w := w) (Nat.le_refl _) W.drew D _ _ (by simp at hD; omega) hK' rfl rfl)⟩
    · rw [e]; exact row_mono (ownsRow_putObj hra' _ hK' rfl) (by omega)
    · rw [e]; exact LRd.of_row (ownsRow_putObj hrb' _ hK' rfl) (he'.kept (grownBy_putObj' _ _ _) (fun i h1 => own_ownT (Tw := fun _ => False) (fun h => h) (he'.own i h1 (by rw [← he'.len]; exact h1)) (fun r e => by cases e; exact ⟨_, hK', .inl rfl⟩)))
end Go.Proofs.YtainkmbjllklaaaDoor
