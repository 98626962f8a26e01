/- hbllaw2's pairs: what is ranged over, the first n. -/
import Derived.Test.YtdkplhfbcpobaaaTwoRows
import Derived.Test.YtdkplhfbcpobaaaRangeW
import Derived.Test.YtdkplhfbcpobaaaTakeIS
namespace Go.Proofs.Ytdkplhfbcpobaaa
open Go.RowKit
attribute [local go_sem] Oper.semAt_some wide_fn wide_depth

theorem infoS : (Try.prog.info? 9).map (fun i => (i.zero, i.size, i.bytes)) = some (some (str []), 1, 16) := by kernel_rfl
/-- What pairs tells: the first keys, the first values. -/
def PairsP (w : World) (l : List (Value × Value)) (e : Ending) (w' : World) : Prop :=
  ∃ va vb, e = .returned (.tuple #[va, vb]) ∧ w'.ownsRow w.heap.size 3 1 va l.length (l.map (·.1)) ∧ w'.ownsRow w.heap.size 9 1 vb l.length (l.map (·.2)) ∧ Below w.heap.size w w'
/-- What pairs keeps from round to round. -/
def PairsI (w : World) (N : Nat) (pre : List (Value × Value)) (W : World) : Prop :=
  BoxRow (w.heap.size + 3) (w.heap.size + 1) 42 3 W (pre.map (·.1)) ∧ BoxRow (w.heap.size + 3) (w.heap.size + 2) 43 9 W (pre.map (·.2)) ∧ Boxed W w.heap.size 3 (.int .i64 (N : Int)) ∧ Below w.heap.size w W
/-- What Merge writes of its own. -/
def MrgT (T : TypeId) : Prop := T = 92
theorem pairsI_own (w : World) (N : Nat) {B : Nat} (hB : w.heap.size ≤ B) : OwnFromT MrgT B (PairsI w N) :=
  OwnFromT.and ((boxRow_ownT _ _ _ _ _ (by unfold MrgT; decide) (by unfold MrgT; decide)).from _) (OwnFromT.and ((boxRow_ownT _ _ _ _ _ (by unfold MrgT; decide) (by unfold MrgT; decide)).from _) (OwnFromT.and ((boxed_ownT _ _ _ (by unfold MrgT; decide)).from _) (ownFromT_below (Nat.le_refl _) hB)))
set_option maxRecDepth 100000 in
set_option maxHeartbeats 8000000 in
theorem pairsW_any {Ok : World → Prop} {gf : Nat} {lb : Array Value} {xs : List (Value × Value)} {w : World} (n : Int) (h1 : 1 ≤ n) (hx : xs.length ≤ 1099511627776) (hk : ∀ p ∈ xs, KSIS p.1 ∧ VSIS p.2)
    (eg : ∀ args w, (callFunc gf args).run Try.prog w = .ok (.enter gf args) w) (hOk : ∀ W, Below w.heap.size w W → Ok W)
    (hs : ∀ W', Below w.heap.size w W' → SeqsW MrgT Try.prog gf lb (fun p : Value × Value => #[p.1, p.2]) Ok (fun T => T = 3 ∨ T = 9) xs W') :
    Calls Try.prog 20 #[.func (.func gf) #[] lb, .int .i64 n] w (PairsP w (xs.take n.toNat)) := by
  have hfn : ∀ w, (binOp .eql 48 (.func (.func gf) #[] lb) .nilFunc).run Try.prog w = .ok (.bool false) w := fun w => by kernel_rfl
  obtain ⟨i0, hi, hz0, hz1, hz2⟩ := info_parts infoKIS
  obtain ⟨i1, gi, gz0, gz1, gz2⟩ := info_parts infoS
  obtain ⟨N, hN, hN1⟩ : ∃ N : Nat, n = (N : Int) ∧ 1 ≤ N := ⟨n.toNat, by omega, by omega⟩
  subst hN
  refine (callsIn_wide (n := 9)).1 ?_
  refine callsIn_of_wp_marks Try.func20 rfl trivial ?_ rfl
  simp only [Try.ntmps20, List.size_toArray, List.length_cons, List.length_nil, Nat.reduceAdd, Nat.reduceSub, Array.replicate_succ, Array.replicate_zero, List.push_toArray, List.append_toArray, List.nil_append, List.cons_append]
  gi_wp2
  have bN := Boxed.new w 3 (.int .i64 (N : Int))
  have bA := Boxed.new (w.alloc (.cells #[.int .i64 (N : Int)] 3)) 42 (.slice none 0 0)
  have bB := Boxed.new ((w.alloc (.cells #[.int .i64 (N : Int)] 3)).alloc (.cells #[.slice none 0 0] 42)) 43 (.slice none 0 0)
  simp only [World.size_alloc] at bA bB
  have hB0 : Below w.heap.size w (((w.alloc (.cells #[.int .i64 (N : Int)] 3)).alloc (.cells #[.slice none 0 0] 42)).alloc (.cells #[.slice none 0 0] 43)) := (((Below.refl _ w).alloc (Nat.le_refl _) _).alloc (by simp) _).alloc (by simp; omega) _
  refine range_lawW (Tw := MrgT) (gf := gf) (lb := lb) rfl eg (Wr := fun T => T = 3 ∨ T = 9) (xs := xs) (fun W' h => hs W' (hB0.trans (h.mono (by simp; omega)))) (by intro x; rfl)
    (fun pre W => PairsI w N pre W ∧ pre.length < N)
    (fun c pre W => PairsI w N pre W ∧ c = .exit 0 ∧ pre.length = N)
    (OwnFromT.and (pairsI_own w N (by simp; omega)) (ownFromT_pure _ _ (fun pre : List (Value × Value) => pre.length < N)))
    (fun c => OwnFromT.and (pairsI_own w N (by simp; omega)) (ownFromT_pure _ _ (fun pre : List (Value × Value) => c = .exit 0 ∧ pre.length = N)))
    ⟨⟨⟨_, (bA.alloc _), World.ownsRow_nil _ _ _ _⟩, ⟨_, bB, World.ownsRow_nil _ _ _ _⟩, (bN.alloc _).alloc _, hB0⟩, by simp; omega⟩ (fun pre W h => hOk W h.1.2.2.2)
    (fun x => { tmps := #[.func (.func gf) #[] lb, .int .i64 (N : Int), undef, .pointer (some ⟨w.heap.size, 0, none⟩), .slice none 0 0, .slice none 0 0, .pointer (some ⟨w.heap.size + 1, 0, none⟩), .pointer (some ⟨w.heap.size + 2, 0, none⟩), x.1, x.2, .func (.func gf) #[] lb, .bool false, .bool false, .int .i64 (N : Int), .bool (decide ((N : Int) < 1)), .bool (decide ((N : Int) < 1)), .func (.func gf) #[] lb, x.1, x.2, undef, undef, undef, undef, undef, undef, undef, undef, undef, undef, undef, undef, undef, undef], defers := [] }) ?assign ?body ?done ?stop
  case assign =>
    intro l x W K hK
    gi_wp2
    exact hK
  case body =>
    rintro l2 pre ⟨k, y⟩ W _ ⟨⟨⟨va, hva, hra⟩, ⟨vb, hvb, hrb⟩, hn, hB⟩, hlt⟩ ⟨t, ht⟩
    obtain ⟨⟨kn, rfl, _⟩, ⟨xl, rfl⟩⟩ := hk (k, y) (by rw [ht]; simp)
    dsimp only
    have hlen : pre.length + 1 ≤ 1099511627776 := by rw [ht] at hx; simp at hx; omega
    have hsz : w.heap.size + 3 ≤ W.heap.size := hvb.lt
    obtain ⟨ka, hka⟩ : ∃ k, k = pre.map (·.1) := ⟨_, rfl⟩
    obtain ⟨kb, hkb⟩ : ∃ k, k = pre.map (·.2) := ⟨_, rfl⟩
    rw [← hka] at hra
    rw [← hkb] at hrb
    have hla : ka.length = pre.length := by rw [hka]; simp
    have hlb : kb.length = pre.length := by rw [hkb]; simp
    have lena1 : ka.length + 1 ≤ maxLen := by rw [hla]; simp only [maxLen]; omega
    have lena2 : (ka.length + 1) * 8 ≤ 140737488355328 := by omega
    have lenb1 : kb.length + 1 ≤ maxLen := by rw [hlb]; simp only [maxLen]; omega
    have lenb2 : (kb.length + 1) * 16 ≤ 140737488355328 := by omega
    have H : PSt (w.heap.size + 3) w.heap.size (w.heap.size + 1) (w.heap.size + 2) w.heap.size 42 43 3 3 9 W W va vb (.int .i64 (N : Int)) va vb ka kb :=
      ⟨hva, hvb, hn, hra, hrb, KT.refl _ _ _, Below.refl _ _, hsz, by omega, by decide⟩
    have H := H.drew
    have HH := Lib.hid (And.intro hB (And.intro ht (And.intro hka (And.intro hkb (And.intro hla hlb)))))
    clear hla hlb hva hvb hn hra hrb hB ht hka hkb hx hk hs hOk hB0 bN bA bB hsz
    have hm : Try.prog.follows .mixedOrders = true := by kernel_rfl
    gi_wp2
    refine cut_region (fun a W1 => ∃ ta tb ua ub, a = { tmps := #[.func (.func gf) #[] lb, .int .i64 (N : Int), undef, .pointer (some ⟨w.heap.size, 0, none⟩), .slice none 0 0, .slice none 0 0, .pointer (some ⟨w.heap.size + 1, 0, none⟩), .pointer (some ⟨w.heap.size + 2, 0, none⟩), .int .i64 kn, str xl, .func (.func gf) #[] lb, .bool false, .bool false, .int .i64 (N : Int), .bool (decide ((N : Int) < 1)), .bool (decide ((N : Int) < 1)), .func (.func gf) #[] lb, .int .i64 kn, str xl, va, .int .i64 kn, ta, ua, vb, str xl, tb, ub, undef, undef, undef, undef, undef, undef], defers := [] } ∧
      PSt (w.heap.size + 3) w.heap.size (w.heap.size + 1) (w.heap.size + 2) w.heap.size 42 43 3 3 9 W W1 ua ub (.int .i64 (N : Int)) ua ub (ka ++ [.int .i64 kn]) (kb ++ [str xl])) ?_ ?_
    refine wpIn_region_any hm ?_
    change wpAnyIn _ _ _ _ _ _ _ _ _ (World.drew _)
    refine any_inRound rfl (by kernel_rfl) _ _ _ _ ?_
    generalize W.drew = W9 at H ⊢
    -- REGION
    refine wpAnyIn_take (i := 1) (v := ?v1) rfl rfl (by kernel_rfl) (by kernel_rfl) (by kernel_rfl) (fun _ _ _ h => (nomatch h.1)) ⟨Or.inl ⟨by rfl, ?hy1⟩, fun _ => rfl⟩ ?_
    case hy1 => (intro w; go_simp; try with_reducible rfl)
    go_simp
    refine wpAnyIn_take (i := 5) (v := ?v2) rfl rfl (by kernel_rfl) (by kernel_rfl) (by kernel_rfl) (fun _ _ _ h => (nomatch h.1)) ⟨Or.inl ⟨by rfl, ?hy2⟩, fun _ => rfl⟩ ?_
    case hy2 => (intro w; go_simp; try with_reducible rfl)
    go_simp
    refine wpAnyIn_ready (rs := [0, 2, 4, 6]) (by kernel_rfl) (by simp) (AllReadyIn.cons rfl (fun K hK => ?_) (AllReadyIn.cons rfl (fun K hK => ?_) (AllReadyIn.cons rfl (fun K hK => ?_) (AllReadyIn.cons rfl (fun K hK => ?_) AllReadyIn.nil))))
    · have cq := H.ba.cell
      go_simp
      refine hK _ _ ?_
      clear hK K cq
      refine wpAnyIn_ready (rs := [2, 4, 6]) (by kernel_rfl) (by simp) (AllReadyIn.cons rfl (fun K hK => ?_) (AllReadyIn.cons rfl (fun K hK => ?_) (AllReadyIn.cons rfl (fun K hK => ?_) AllReadyIn.nil)))
      · go_simp
        refine hK _ _ ?_
        clear hK K
        obtain ⟨H, TA⟩ := H.temp 3 (.int .i64 kn)
        try simp only [World.size_alloc] at TA
        refine wpAnyIn_ready (rs := [3, 4, 6]) (by kernel_rfl) (by simp) (AllReadyIn.cons rfl (fun K hK => ?_) (AllReadyIn.cons rfl (fun K hK => ?_) (AllReadyIn.cons rfl (fun K hK => ?_) AllReadyIn.nil)))
        · refine step_appendIn (by rfl) _ _ 42 (by rfl) Try.underlying42 hi hz0 hz1 hz2 rfl (by rfl) H.ra (by rfl) TA (by rfl) lena1 lena2 H.sz ?_
          intro ua' W' hr hg
          refine hK _ _ ?_
          clear hK K
          have H := H.appA hr hg
          clear hr hg TA
          go_simp
          refine wpAnyIn_ready (rs := [4, 6]) (by kernel_rfl) (by simp) (AllReadyIn.cons rfl (fun K hK => ?_) (AllReadyIn.cons rfl (fun K hK => ?_) AllReadyIn.nil))
          · have cq := H.bb.cell
            go_simp
            refine hK _ _ ?_
            clear hK K cq
            refine wpAnyIn_ready (rs := [6]) (by kernel_rfl) (by simp) (AllReadyIn.cons rfl (fun K hK => ?_) AllReadyIn.nil)
            · go_simp
              refine hK _ _ ?_
              clear hK K
              obtain ⟨H, TB⟩ := H.temp 9 (str xl)
              try simp only [World.size_alloc] at TB
              refine wpAnyIn_ready (rs := [7]) (by kernel_rfl) (by simp) (AllReadyIn.cons rfl (fun K hK => ?_) AllReadyIn.nil)
              · refine step_appendIn (by rfl) _ _ 43 (by rfl) Try.underlying43 gi gz0 gz1 gz2 rfl (by rfl) H.rb (by rfl) TB (by rfl) lenb1 lenb2 H.sz ?_
                intro ub' W' hr hg
                refine hK _ _ ?_
                clear hK K
                have H := H.appB hr hg
                clear hr hg TB
                go_simp
                refine wpAnyIn_ready (rs := [8]) (by kernel_rfl) (by simp) (AllReadyIn.cons rfl (fun K hK => ?_) AllReadyIn.nil)
                obtain ⟨ga, cpa, rfl⟩ := ownsRow_succ (by simpa using H.ra)
                have cq := H.ba.cell
                have fq := H.ba.frozen
                go_simp
                refine hK _ _ ?_
                clear hK K cq fq
                have H := H.setA (.slice (some ⟨ga, 0, none⟩) (ka.length + 1) cpa)
                refine wpAnyIn_ready (rs := [9]) (by kernel_rfl) (by simp) (AllReadyIn.cons rfl (fun K hK => ?_) AllReadyIn.nil)
                obtain ⟨gb, cpb, rfl⟩ := ownsRow_succ (by simpa using H.rb)
                have cq := H.bb.cell
                have fq := H.bb.frozen
                go_simp
                refine hK _ _ ?_
                clear hK K cq fq
                have H := H.setB (.slice (some ⟨gb, 0, none⟩) (kb.length + 1) cpb)
                refine wpAnyIn_done (by kernel_rfl) ?_ _
                exact ⟨rfl, _, _, _, _, rfl, H⟩
          · go_simp
            refine hK _ _ ?_
            clear hK K
            obtain ⟨H, TB⟩ := H.temp 9 (str xl)
            try simp only [World.size_alloc] at TB
            refine wpAnyIn_ready (rs := [4]) (by kernel_rfl) (by simp) (AllReadyIn.cons rfl (fun K hK => ?_) AllReadyIn.nil)
            · have cq := H.bb.cell
              go_simp
              refine hK _ _ ?_
              clear hK K cq
              refine wpAnyIn_ready (rs := [7]) (by kernel_rfl) (by simp) (AllReadyIn.cons rfl (fun K hK => ?_) AllReadyIn.nil)
              · refine step_appendIn (by rfl) _ _ 43 (by rfl) Try.underlying43 gi gz0 gz1 gz2 rfl (by rfl) H.rb (by rfl) TB (by rfl) lenb1 lenb2 H.sz ?_
                intro ub' W' hr hg
                refine hK _ _ ?_
                clear hK K
                have H := H.appB hr hg
                clear hr hg TB
                go_simp
                refine wpAnyIn_ready (rs := [8]) (by kernel_rfl) (by simp) (AllReadyIn.cons rfl (fun K hK => ?_) AllReadyIn.nil)
                obtain ⟨ga, cpa, rfl⟩ := ownsRow_succ (by simpa using H.ra)
                have cq := H.ba.cell
                have fq := H.ba.frozen
                go_simp
                refine hK _ _ ?_
                clear hK K cq fq
                have H := H.setA (.slice (some ⟨ga, 0, none⟩) (ka.length + 1) cpa)
                refine wpAnyIn_ready (rs := [9]) (by kernel_rfl) (by simp) (AllReadyIn.cons rfl (fun K hK => ?_) AllReadyIn.nil)
                obtain ⟨gb, cpb, rfl⟩ := ownsRow_succ (by simpa using H.rb)
                have cq := H.bb.cell
                have fq := H.bb.frozen
                go_simp
                refine hK _ _ ?_
                clear hK K cq fq
                have H := H.setB (.slice (some ⟨gb, 0, none⟩) (kb.length + 1) cpb)
                refine wpAnyIn_done (by kernel_rfl) ?_ _
                exact ⟨rfl, _, _, _, _, rfl, H⟩
        · have cq := H.bb.cell
          go_simp
          refine hK _ _ ?_
          clear hK K cq
          refine wpAnyIn_ready (rs := [3, 6]) (by kernel_rfl) (by simp) (AllReadyIn.cons rfl (fun K hK => ?_) (AllReadyIn.cons rfl (fun K hK => ?_) AllReadyIn.nil))
          · refine step_appendIn (by rfl) _ _ 42 (by rfl) Try.underlying42 hi hz0 hz1 hz2 rfl (by rfl) H.ra (by rfl) TA (by rfl) lena1 lena2 H.sz ?_
            intro ua' W' hr hg
            refine hK _ _ ?_
            clear hK K
            have H := H.appA hr hg
            clear hr hg TA
            go_simp
            refine wpAnyIn_ready (rs := [6]) (by kernel_rfl) (by simp) (AllReadyIn.cons rfl (fun K hK => ?_) AllReadyIn.nil)
            · go_simp
              refine hK _ _ ?_
              clear hK K
              obtain ⟨H, TB⟩ := H.temp 9 (str xl)
              try simp only [World.size_alloc] at TB
              refine wpAnyIn_ready (rs := [7]) (by kernel_rfl) (by simp) (AllReadyIn.cons rfl (fun K hK => ?_) AllReadyIn.nil)
              · refine step_appendIn (by rfl) _ _ 43 (by rfl) Try.underlying43 gi gz0 gz1 gz2 rfl (by rfl) H.rb (by rfl) TB (by rfl) lenb1 lenb2 H.sz ?_
                intro ub' W' hr hg
                refine hK _ _ ?_
                clear hK K
                have H := H.appB hr hg
                clear hr hg TB
                go_simp
                refine wpAnyIn_ready (rs := [8]) (by kernel_rfl) (by simp) (AllReadyIn.cons rfl (fun K hK => ?_) AllReadyIn.nil)
                obtain ⟨ga, cpa, rfl⟩ := ownsRow_succ (by simpa using H.ra)
                have cq := H.ba.cell
                have fq := H.ba.frozen
                go_simp
                refine hK _ _ ?_
                clear hK K cq fq
                have H := H.setA (.slice (some ⟨ga, 0, none⟩) (ka.length + 1) cpa)
                refine wpAnyIn_ready (rs := [9]) (by kernel_rfl) (by simp) (AllReadyIn.cons rfl (fun K hK => ?_) AllReadyIn.nil)
                obtain ⟨gb, cpb, rfl⟩ := ownsRow_succ (by simpa using H.rb)
                have cq := H.bb.cell
                have fq := H.bb.frozen
                go_simp
                refine hK _ _ ?_
                clear hK K cq fq
                have H := H.setB (.slice (some ⟨gb, 0, none⟩) (kb.length + 1) cpb)
                refine wpAnyIn_done (by kernel_rfl) ?_ _
                exact ⟨rfl, _, _, _, _, rfl, H⟩
          · go_simp
            refine hK _ _ ?_
            clear hK K
            obtain ⟨H, TB⟩ := H.temp 9 (str xl)
            try simp only [World.size_alloc] at TB
            have TA := TA.alloc (.cells #[(str xl)] 9)
            refine wpAnyIn_ready (rs := [3]) (by kernel_rfl) (by simp) (AllReadyIn.cons rfl (fun K hK => ?_) AllReadyIn.nil)
            · refine step_appendIn (by rfl) _ _ 42 (by rfl) Try.underlying42 hi hz0 hz1 hz2 rfl (by rfl) H.ra (by rfl) TA (by rfl) lena1 lena2 H.sz ?_
              intro ua' W' hr hg
              refine hK _ _ ?_
              clear hK K
              have TB := temp_kept TB H.ra hg (by decide)
              have H := H.appA hr hg
              clear hr hg TA
              go_simp
              refine wpAnyIn_ready (rs := [7]) (by kernel_rfl) (by simp) (AllReadyIn.cons rfl (fun K hK => ?_) AllReadyIn.nil)
              · refine step_appendIn (by rfl) _ _ 43 (by rfl) Try.underlying43 gi gz0 gz1 gz2 rfl (by rfl) H.rb (by rfl) TB (by rfl) lenb1 lenb2 H.sz ?_
                intro ub' W' hr hg
                refine hK _ _ ?_
                clear hK K
                have H := H.appB hr hg
                clear hr hg TB
                go_simp
                refine wpAnyIn_ready (rs := [8]) (by kernel_rfl) (by simp) (AllReadyIn.cons rfl (fun K hK => ?_) AllReadyIn.nil)
                obtain ⟨ga, cpa, rfl⟩ := ownsRow_succ (by simpa using H.ra)
                have cq := H.ba.cell
                have fq := H.ba.frozen
                go_simp
                refine hK _ _ ?_
                clear hK K cq fq
                have H := H.setA (.slice (some ⟨ga, 0, none⟩) (ka.length + 1) cpa)
                refine wpAnyIn_ready (rs := [9]) (by kernel_rfl) (by simp) (AllReadyIn.cons rfl (fun K hK => ?_) AllReadyIn.nil)
                obtain ⟨gb, cpb, rfl⟩ := ownsRow_succ (by simpa using H.rb)
                have cq := H.bb.cell
                have fq := H.bb.frozen
                go_simp
                refine hK _ _ ?_
                clear hK K cq fq
                have H := H.setB (.slice (some ⟨gb, 0, none⟩) (kb.length + 1) cpb)
                refine wpAnyIn_done (by kernel_rfl) ?_ _
                exact ⟨rfl, _, _, _, _, rfl, H⟩
        · go_simp
          refine hK _ _ ?_
          clear hK K
          obtain ⟨H, TB⟩ := H.temp 9 (str xl)
          try simp only [World.size_alloc] at TB
          have TA := TA.alloc (.cells #[(str xl)] 9)
          refine wpAnyIn_ready (rs := [3, 4]) (by kernel_rfl) (by simp) (AllReadyIn.cons rfl (fun K hK => ?_) (AllReadyIn.cons rfl (fun K hK => ?_) AllReadyIn.nil))
          · refine step_appendIn (by rfl) _ _ 42 (by rfl) Try.underlying42 hi hz0 hz1 hz2 rfl (by rfl) H.ra (by rfl) TA (by rfl) lena1 lena2 H.sz ?_
            intro ua' W' hr hg
            refine hK _ _ ?_
            clear hK K
            have TB := temp_kept TB H.ra hg (by decide)
            have H := H.appA hr hg
            clear hr hg TA
            go_simp
            refine wpAnyIn_ready (rs := [4]) (by kernel_rfl) (by simp) (AllReadyIn.cons rfl (fun K hK => ?_) AllReadyIn.nil)
            · have cq := H.bb.cell
              go_simp
              refine hK _ _ ?_
              clear hK K cq
              refine wpAnyIn_ready (rs := [7]) (by kernel_rfl) (by simp) (AllReadyIn.cons rfl (fun K hK => ?_) AllReadyIn.nil)
              · refine step_appendIn (by rfl) _ _ 43 (by rfl) Try.underlying43 gi gz0 gz1 gz2 rfl (by rfl) H.rb (by rfl) TB (by rfl) lenb1 lenb2 H.sz ?_
                intro ub' W' hr hg
                refine hK _ _ ?_
                clear hK K
                have H := H.appB hr hg
                clear hr hg TB
                go_simp
                refine wpAnyIn_ready (rs := [8]) (by kernel_rfl) (by simp) (AllReadyIn.cons rfl (fun K hK => ?_) AllReadyIn.nil)
                obtain ⟨ga, cpa, rfl⟩ := ownsRow_succ (by simpa using H.ra)
                have cq := H.ba.cell
                have fq := H.ba.frozen
                go_simp
                refine hK _ _ ?_
                clear hK K cq fq
                have H := H.setA (.slice (some ⟨ga, 0, none⟩) (ka.length + 1) cpa)
                refine wpAnyIn_ready (rs := [9]) (by kernel_rfl) (by simp) (AllReadyIn.cons rfl (fun K hK => ?_) AllReadyIn.nil)
                obtain ⟨gb, cpb, rfl⟩ := ownsRow_succ (by simpa using H.rb)
                have cq := H.bb.cell
                have fq := H.bb.frozen
                go_simp
                refine hK _ _ ?_
                clear hK K cq fq
                have H := H.setB (.slice (some ⟨gb, 0, none⟩) (kb.length + 1) cpb)
                refine wpAnyIn_done (by kernel_rfl) ?_ _
                exact ⟨rfl, _, _, _, _, rfl, H⟩
          · have cq := H.bb.cell
            go_simp
            refine hK _ _ ?_
            clear hK K cq
            refine wpAnyIn_ready (rs := [3]) (by kernel_rfl) (by simp) (AllReadyIn.cons rfl (fun K hK => ?_) AllReadyIn.nil)
            · refine step_appendIn (by rfl) _ _ 42 (by rfl) Try.underlying42 hi hz0 hz1 hz2 rfl (by rfl) H.ra (by rfl) TA (by rfl) lena1 lena2 H.sz ?_
              intro ua' W' hr hg
              refine hK _ _ ?_
              clear hK K
              have TB := temp_kept TB H.ra hg (by decide)
              have H := H.appA hr hg
              clear hr hg TA
              go_simp
              refine wpAnyIn_ready (rs := [7]) (by kernel_rfl) (by simp) (AllReadyIn.cons rfl (fun K hK => ?_) AllReadyIn.nil)
              · refine step_appendIn (by rfl) _ _ 43 (by rfl) Try.underlying43 gi gz0 gz1 gz2 rfl (by rfl) H.rb (by rfl) TB (by rfl) lenb1 lenb2 H.sz ?_
                intro ub' W' hr hg
                refine hK _ _ ?_
                clear hK K
                have H := H.appB hr hg
                clear hr hg TB
                go_simp
                refine wpAnyIn_ready (rs := [8]) (by kernel_rfl) (by simp) (AllReadyIn.cons rfl (fun K hK => ?_) AllReadyIn.nil)
                obtain ⟨ga, cpa, rfl⟩ := ownsRow_succ (by simpa using H.ra)
                have cq := H.ba.cell
                have fq := H.ba.frozen
                go_simp
                refine hK _ _ ?_
                clear hK K cq fq
                have H := H.setA (.slice (some ⟨ga, 0, none⟩) (ka.length + 1) cpa)
                refine wpAnyIn_ready (rs := [9]) (by kernel_rfl) (by simp) (AllReadyIn.cons rfl (fun K hK => ?_) AllReadyIn.nil)
                obtain ⟨gb, cpb, rfl⟩ := ownsRow_succ (by simpa using H.rb)
                have cq := H.bb.cell
                have fq := H.bb.frozen
                go_simp
                refine hK _ _ ?_
                clear hK K cq fq
                have H := H.setB (.slice (some ⟨gb, 0, none⟩) (kb.length + 1) cpb)
                refine wpAnyIn_done (by kernel_rfl) ?_ _
                exact ⟨rfl, _, _, _, _, rfl, H⟩
      · have cq := H.bb.cell
        go_simp
        refine hK _ _ ?_
        clear hK K cq
        refine wpAnyIn_ready (rs := [2, 6]) (by kernel_rfl) (by simp) (AllReadyIn.cons rfl (fun K hK => ?_) (AllReadyIn.cons rfl (fun K hK => ?_) AllReadyIn.nil))
        · go_simp
          refine hK _ _ ?_
          clear hK K
          obtain ⟨H, TA⟩ := H.temp 3 (.int .i64 kn)
          try simp only [World.size_alloc] at TA
          refine wpAnyIn_ready (rs := [3, 6]) (by kernel_rfl) (by simp) (AllReadyIn.cons rfl (fun K hK => ?_) (AllReadyIn.cons rfl (fun K hK => ?_) AllReadyIn.nil))
          · refine step_appendIn (by rfl) _ _ 42 (by rfl) Try.underlying42 hi hz0 hz1 hz2 rfl (by rfl) H.ra (by rfl) TA (by rfl) lena1 lena2 H.sz ?_
            intro ua' W' hr hg
            refine hK _ _ ?_
            clear hK K
            have H := H.appA hr hg
            clear hr hg TA
            go_simp
            refine wpAnyIn_ready (rs := [6]) (by kernel_rfl) (by simp) (AllReadyIn.cons rfl (fun K hK => ?_) AllReadyIn.nil)
            · go_simp
              refine hK _ _ ?_
              clear hK K
              obtain ⟨H, TB⟩ := H.temp 9 (str xl)
              try simp only [World.size_alloc] at TB
              refine wpAnyIn_ready (rs := [7]) (by kernel_rfl) (by simp) (AllReadyIn.cons rfl (fun K hK => ?_) AllReadyIn.nil)
              · refine step_appendIn (by rfl) _ _ 43 (by rfl) Try.underlying43 gi gz0 gz1 gz2 rfl (by rfl) H.rb (by rfl) TB (by rfl) lenb1 lenb2 H.sz ?_
                intro ub' W' hr hg
                refine hK _ _ ?_
                clear hK K
                have H := H.appB hr hg
                clear hr hg TB
                go_simp
                refine wpAnyIn_ready (rs := [8]) (by kernel_rfl) (by simp) (AllReadyIn.cons rfl (fun K hK => ?_) AllReadyIn.nil)
                obtain ⟨ga, cpa, rfl⟩ := ownsRow_succ (by simpa using H.ra)
                have cq := H.ba.cell
                have fq := H.ba.frozen
                go_simp
                refine hK _ _ ?_
                clear hK K cq fq
                have H := H.setA (.slice (some ⟨ga, 0, none⟩) (ka.length + 1) cpa)
                refine wpAnyIn_ready (rs := [9]) (by kernel_rfl) (by simp) (AllReadyIn.cons rfl (fun K hK => ?_) AllReadyIn.nil)
                obtain ⟨gb, cpb, rfl⟩ := ownsRow_succ (by simpa using H.rb)
                have cq := H.bb.cell
                have fq := H.bb.frozen
                go_simp
                refine hK _ _ ?_
                clear hK K cq fq
                have H := H.setB (.slice (some ⟨gb, 0, none⟩) (kb.length + 1) cpb)
                refine wpAnyIn_done (by kernel_rfl) ?_ _
                exact ⟨rfl, _, _, _, _, rfl, H⟩
          · go_simp
            refine hK _ _ ?_
            clear hK K
            obtain ⟨H, TB⟩ := H.temp 9 (str xl)
            try simp only [World.size_alloc] at TB
            have TA := TA.alloc (.cells #[(str xl)] 9)
            refine wpAnyIn_ready (rs := [3]) (by kernel_rfl) (by simp) (AllReadyIn.cons rfl (fun K hK => ?_) AllReadyIn.nil)
            · refine step_appendIn (by rfl) _ _ 42 (by rfl) Try.underlying42 hi hz0 hz1 hz2 rfl (by rfl) H.ra (by rfl) TA (by rfl) lena1 lena2 H.sz ?_
              intro ua' W' hr hg
              refine hK _ _ ?_
              clear hK K
              have TB := temp_kept TB H.ra hg (by decide)
              have H := H.appA hr hg
              clear hr hg TA
              go_simp
              refine wpAnyIn_ready (rs := [7]) (by kernel_rfl) (by simp) (AllReadyIn.cons rfl (fun K hK => ?_) AllReadyIn.nil)
              · refine step_appendIn (by rfl) _ _ 43 (by rfl) Try.underlying43 gi gz0 gz1 gz2 rfl (by rfl) H.rb (by rfl) TB (by rfl) lenb1 lenb2 H.sz ?_
                intro ub' W' hr hg
                refine hK _ _ ?_
                clear hK K
                have H := H.appB hr hg
                clear hr hg TB
                go_simp
                refine wpAnyIn_ready (rs := [8]) (by kernel_rfl) (by simp) (AllReadyIn.cons rfl (fun K hK => ?_) AllReadyIn.nil)
                obtain ⟨ga, cpa, rfl⟩ := ownsRow_succ (by simpa using H.ra)
                have cq := H.ba.cell
                have fq := H.ba.frozen
                go_simp
                refine hK _ _ ?_
                clear hK K cq fq
                have H := H.setA (.slice (some ⟨ga, 0, none⟩) (ka.length + 1) cpa)
                refine wpAnyIn_ready (rs := [9]) (by kernel_rfl) (by simp) (AllReadyIn.cons rfl (fun K hK => ?_) AllReadyIn.nil)
                obtain ⟨gb, cpb, rfl⟩ := ownsRow_succ (by simpa using H.rb)
                have cq := H.bb.cell
                have fq := H.bb.frozen
                go_simp
                refine hK _ _ ?_
                clear hK K cq fq
                have H := H.setB (.slice (some ⟨gb, 0, none⟩) (kb.length + 1) cpb)
                refine wpAnyIn_done (by kernel_rfl) ?_ _
                exact ⟨rfl, _, _, _, _, rfl, H⟩
        · go_simp
          refine hK _ _ ?_
          clear hK K
          obtain ⟨H, TB⟩ := H.temp 9 (str xl)
          try simp only [World.size_alloc] at TB
          refine wpAnyIn_ready (rs := [2]) (by kernel_rfl) (by simp) (AllReadyIn.cons rfl (fun K hK => ?_) AllReadyIn.nil)
          · go_simp
            refine hK _ _ ?_
            clear hK K
            obtain ⟨H, TA⟩ := H.temp 3 (.int .i64 kn)
            try simp only [World.size_alloc] at TA
            have TB := TB.alloc (.cells #[(.int .i64 kn)] 3)
            refine wpAnyIn_ready (rs := [3]) (by kernel_rfl) (by simp) (AllReadyIn.cons rfl (fun K hK => ?_) AllReadyIn.nil)
            · refine step_appendIn (by rfl) _ _ 42 (by rfl) Try.underlying42 hi hz0 hz1 hz2 rfl (by rfl) H.ra (by rfl) TA (by rfl) lena1 lena2 H.sz ?_
              intro ua' W' hr hg
              refine hK _ _ ?_
              clear hK K
              have TB := temp_kept TB H.ra hg (by decide)
              have H := H.appA hr hg
              clear hr hg TA
              go_simp
              refine wpAnyIn_ready (rs := [7]) (by kernel_rfl) (by simp) (AllReadyIn.cons rfl (fun K hK => ?_) AllReadyIn.nil)
              · refine step_appendIn (by rfl) _ _ 43 (by rfl) Try.underlying43 gi gz0 gz1 gz2 rfl (by rfl) H.rb (by rfl) TB (by rfl) lenb1 lenb2 H.sz ?_
                intro ub' W' hr hg
                refine hK _ _ ?_
                clear hK K
                have H := H.appB hr hg
                clear hr hg TB
                go_simp
                refine wpAnyIn_ready (rs := [8]) (by kernel_rfl) (by simp) (AllReadyIn.cons rfl (fun K hK => ?_) AllReadyIn.nil)
                obtain ⟨ga, cpa, rfl⟩ := ownsRow_succ (by simpa using H.ra)
                have cq := H.ba.cell
                have fq := H.ba.frozen
                go_simp
                refine hK _ _ ?_
                clear hK K cq fq
                have H := H.setA (.slice (some ⟨ga, 0, none⟩) (ka.length + 1) cpa)
                refine wpAnyIn_ready (rs := [9]) (by kernel_rfl) (by simp) (AllReadyIn.cons rfl (fun K hK => ?_) AllReadyIn.nil)
                obtain ⟨gb, cpb, rfl⟩ := ownsRow_succ (by simpa using H.rb)
                have cq := H.bb.cell
                have fq := H.bb.frozen
                go_simp
                refine hK _ _ ?_
                clear hK K cq fq
                have H := H.setB (.slice (some ⟨gb, 0, none⟩) (kb.length + 1) cpb)
                refine wpAnyIn_done (by kernel_rfl) ?_ _
                exact ⟨rfl, _, _, _, _, rfl, H⟩
      · go_simp
        refine hK _ _ ?_
        clear hK K
        obtain ⟨H, TB⟩ := H.temp 9 (str xl)
        try simp only [World.size_alloc] at TB
        refine wpAnyIn_ready (rs := [2, 4]) (by kernel_rfl) (by simp) (AllReadyIn.cons rfl (fun K hK => ?_) (AllReadyIn.cons rfl (fun K hK => ?_) AllReadyIn.nil))
        · go_simp
          refine hK _ _ ?_
          clear hK K
          obtain ⟨H, TA⟩ := H.temp 3 (.int .i64 kn)
          try simp only [World.size_alloc] at TA
          have TB := TB.alloc (.cells #[(.int .i64 kn)] 3)
          refine wpAnyIn_ready (rs := [3, 4]) (by kernel_rfl) (by simp) (AllReadyIn.cons rfl (fun K hK => ?_) (AllReadyIn.cons rfl (fun K hK => ?_) AllReadyIn.nil))
          · refine step_appendIn (by rfl) _ _ 42 (by rfl) Try.underlying42 hi hz0 hz1 hz2 rfl (by rfl) H.ra (by rfl) TA (by rfl) lena1 lena2 H.sz ?_
            intro ua' W' hr hg
            refine hK _ _ ?_
            clear hK K
            have TB := temp_kept TB H.ra hg (by decide)
            have H := H.appA hr hg
            clear hr hg TA
            go_simp
            refine wpAnyIn_ready (rs := [4]) (by kernel_rfl) (by simp) (AllReadyIn.cons rfl (fun K hK => ?_) AllReadyIn.nil)
            · have cq := H.bb.cell
              go_simp
              refine hK _ _ ?_
              clear hK K cq
              refine wpAnyIn_ready (rs := [7]) (by kernel_rfl) (by simp) (AllReadyIn.cons rfl (fun K hK => ?_) AllReadyIn.nil)
              · refine step_appendIn (by rfl) _ _ 43 (by rfl) Try.underlying43 gi gz0 gz1 gz2 rfl (by rfl) H.rb (by rfl) TB (by rfl) lenb1 lenb2 H.sz ?_
                intro ub' W' hr hg
                refine hK _ _ ?_
                clear hK K
                have H := H.appB hr hg
                clear hr hg TB
                go_simp
                refine wpAnyIn_ready (rs := [8]) (by kernel_rfl) (by simp) (AllReadyIn.cons rfl (fun K hK => ?_) AllReadyIn.nil)
                obtain ⟨ga, cpa, rfl⟩ := ownsRow_succ (by simpa using H.ra)
                have cq := H.ba.cell
                have fq := H.ba.frozen
                go_simp
                refine hK _ _ ?_
                clear hK K cq fq
                have H := H.setA (.slice (some ⟨ga, 0, none⟩) (ka.length + 1) cpa)
                refine wpAnyIn_ready (rs := [9]) (by kernel_rfl) (by simp) (AllReadyIn.cons rfl (fun K hK => ?_) AllReadyIn.nil)
                obtain ⟨gb, cpb, rfl⟩ := ownsRow_succ (by simpa using H.rb)
                have cq := H.bb.cell
                have fq := H.bb.frozen
                go_simp
                refine hK _ _ ?_
                clear hK K cq fq
                have H := H.setB (.slice (some ⟨gb, 0, none⟩) (kb.length + 1) cpb)
                refine wpAnyIn_done (by kernel_rfl) ?_ _
                exact ⟨rfl, _, _, _, _, rfl, H⟩
          · have cq := H.bb.cell
            go_simp
            refine hK _ _ ?_
            clear hK K cq
            refine wpAnyIn_ready (rs := [3]) (by kernel_rfl) (by simp) (AllReadyIn.cons rfl (fun K hK => ?_) AllReadyIn.nil)
            · refine step_appendIn (by rfl) _ _ 42 (by rfl) Try.underlying42 hi hz0 hz1 hz2 rfl (by rfl) H.ra (by rfl) TA (by rfl) lena1 lena2 H.sz ?_
              intro ua' W' hr hg
              refine hK _ _ ?_
              clear hK K
              have TB := temp_kept TB H.ra hg (by decide)
              have H := H.appA hr hg
              clear hr hg TA
              go_simp
              refine wpAnyIn_ready (rs := [7]) (by kernel_rfl) (by simp) (AllReadyIn.cons rfl (fun K hK => ?_) AllReadyIn.nil)
              · refine step_appendIn (by rfl) _ _ 43 (by rfl) Try.underlying43 gi gz0 gz1 gz2 rfl (by rfl) H.rb (by rfl) TB (by rfl) lenb1 lenb2 H.sz ?_
                intro ub' W' hr hg
                refine hK _ _ ?_
                clear hK K
                have H := H.appB hr hg
                clear hr hg TB
                go_simp
                refine wpAnyIn_ready (rs := [8]) (by kernel_rfl) (by simp) (AllReadyIn.cons rfl (fun K hK => ?_) AllReadyIn.nil)
                obtain ⟨ga, cpa, rfl⟩ := ownsRow_succ (by simpa using H.ra)
                have cq := H.ba.cell
                have fq := H.ba.frozen
                go_simp
                refine hK _ _ ?_
                clear hK K cq fq
                have H := H.setA (.slice (some ⟨ga, 0, none⟩) (ka.length + 1) cpa)
                refine wpAnyIn_ready (rs := [9]) (by kernel_rfl) (by simp) (AllReadyIn.cons rfl (fun K hK => ?_) AllReadyIn.nil)
                obtain ⟨gb, cpb, rfl⟩ := ownsRow_succ (by simpa using H.rb)
                have cq := H.bb.cell
                have fq := H.bb.frozen
                go_simp
                refine hK _ _ ?_
                clear hK K cq fq
                have H := H.setB (.slice (some ⟨gb, 0, none⟩) (kb.length + 1) cpb)
                refine wpAnyIn_done (by kernel_rfl) ?_ _
                exact ⟨rfl, _, _, _, _, rfl, H⟩
        · have cq := H.bb.cell
          go_simp
          refine hK _ _ ?_
          clear hK K cq
          refine wpAnyIn_ready (rs := [2]) (by kernel_rfl) (by simp) (AllReadyIn.cons rfl (fun K hK => ?_) AllReadyIn.nil)
          · go_simp
            refine hK _ _ ?_
            clear hK K
            obtain ⟨H, TA⟩ := H.temp 3 (.int .i64 kn)
            try simp only [World.size_alloc] at TA
            have TB := TB.alloc (.cells #[(.int .i64 kn)] 3)
            refine wpAnyIn_ready (rs := [3]) (by kernel_rfl) (by simp) (AllReadyIn.cons rfl (fun K hK => ?_) AllReadyIn.nil)
            · refine step_appendIn (by rfl) _ _ 42 (by rfl) Try.underlying42 hi hz0 hz1 hz2 rfl (by rfl) H.ra (by rfl) TA (by rfl) lena1 lena2 H.sz ?_
              intro ua' W' hr hg
              refine hK _ _ ?_
              clear hK K
              have TB := temp_kept TB H.ra hg (by decide)
              have H := H.appA hr hg
              clear hr hg TA
              go_simp
              refine wpAnyIn_ready (rs := [7]) (by kernel_rfl) (by simp) (AllReadyIn.cons rfl (fun K hK => ?_) AllReadyIn.nil)
              · refine step_appendIn (by rfl) _ _ 43 (by rfl) Try.underlying43 gi gz0 gz1 gz2 rfl (by rfl) H.rb (by rfl) TB (by rfl) lenb1 lenb2 H.sz ?_
                intro ub' W' hr hg
                refine hK _ _ ?_
                clear hK K
                have H := H.appB hr hg
                clear hr hg TB
                go_simp
                refine wpAnyIn_ready (rs := [8]) (by kernel_rfl) (by simp) (AllReadyIn.cons rfl (fun K hK => ?_) AllReadyIn.nil)
                obtain ⟨ga, cpa, rfl⟩ := ownsRow_succ (by simpa using H.ra)
                have cq := H.ba.cell
                have fq := H.ba.frozen
                go_simp
                refine hK _ _ ?_
                clear hK K cq fq
                have H := H.setA (.slice (some ⟨ga, 0, none⟩) (ka.length + 1) cpa)
                refine wpAnyIn_ready (rs := [9]) (by kernel_rfl) (by simp) (AllReadyIn.cons rfl (fun K hK => ?_) AllReadyIn.nil)
                obtain ⟨gb, cpb, rfl⟩ := ownsRow_succ (by simpa using H.rb)
                have cq := H.bb.cell
                have fq := H.bb.frozen
                go_simp
                refine hK _ _ ?_
                clear hK K cq fq
                have H := H.setB (.slice (some ⟨gb, 0, none⟩) (kb.length + 1) cpb)
                refine wpAnyIn_done (by kernel_rfl) ?_ _
                exact ⟨rfl, _, _, _, _, rfl, H⟩
    · go_simp
      refine hK _ _ ?_
      clear hK K
      obtain ⟨H, TA⟩ := H.temp 3 (.int .i64 kn)
      try simp only [World.size_alloc] at TA
      refine wpAnyIn_ready (rs := [0, 4, 6]) (by kernel_rfl) (by simp) (AllReadyIn.cons rfl (fun K hK => ?_) (AllReadyIn.cons rfl (fun K hK => ?_) (AllReadyIn.cons rfl (fun K hK => ?_) AllReadyIn.nil)))
      · have cq := H.ba.cell
        go_simp
        refine hK _ _ ?_
        clear hK K cq
        refine wpAnyIn_ready (rs := [3, 4, 6]) (by kernel_rfl) (by simp) (AllReadyIn.cons rfl (fun K hK => ?_) (AllReadyIn.cons rfl (fun K hK => ?_) (AllReadyIn.cons rfl (fun K hK => ?_) AllReadyIn.nil)))
        · refine step_appendIn (by rfl) _ _ 42 (by rfl) Try.underlying42 hi hz0 hz1 hz2 rfl (by rfl) H.ra (by rfl) TA (by rfl) lena1 lena2 H.sz ?_
          intro ua' W' hr hg
          refine hK _ _ ?_
          clear hK K
          have H := H.appA hr hg
          clear hr hg TA
          go_simp
          refine wpAnyIn_ready (rs := [4, 6]) (by kernel_rfl) (by simp) (AllReadyIn.cons rfl (fun K hK => ?_) (AllReadyIn.cons rfl (fun K hK => ?_) AllReadyIn.nil))
          · have cq := H.bb.cell
            go_simp
            refine hK _ _ ?_
            clear hK K cq
            refine wpAnyIn_ready (rs := [6]) (by kernel_rfl) (by simp) (AllReadyIn.cons rfl (fun K hK => ?_) AllReadyIn.nil)
            · go_simp
              refine hK _ _ ?_
              clear hK K
              obtain ⟨H, TB⟩ := H.temp 9 (str xl)
              try simp only [World.size_alloc] at TB
              refine wpAnyIn_ready (rs := [7]) (by kernel_rfl) (by simp) (AllReadyIn.cons rfl (fun K hK => ?_) AllReadyIn.nil)
              · refine step_appendIn (by rfl) _ _ 43 (by rfl) Try.underlying43 gi gz0 gz1 gz2 rfl (by rfl) H.rb (by rfl) TB (by rfl) lenb1 lenb2 H.sz ?_
                intro ub' W' hr hg
                refine hK _ _ ?_
                clear hK K
                have H := H.appB hr hg
                clear hr hg TB
                go_simp
                refine wpAnyIn_ready (rs := [8]) (by kernel_rfl) (by simp) (AllReadyIn.cons rfl (fun K hK => ?_) AllReadyIn.nil)
                obtain ⟨ga, cpa, rfl⟩ := ownsRow_succ (by simpa using H.ra)
                have cq := H.ba.cell
                have fq := H.ba.frozen
                go_simp
                refine hK _ _ ?_
                clear hK K cq fq
                have H := H.setA (.slice (some ⟨ga, 0, none⟩) (ka.length + 1) cpa)
                refine wpAnyIn_ready (rs := [9]) (by kernel_rfl) (by simp) (AllReadyIn.cons rfl (fun K hK => ?_) AllReadyIn.nil)
                obtain ⟨gb, cpb, rfl⟩ := ownsRow_succ (by simpa using H.rb)
                have cq := H.bb.cell
                have fq := H.bb.frozen
                go_simp
                refine hK _ _ ?_
                clear hK K cq fq
                have H := H.setB (.slice (some ⟨gb, 0, none⟩) (kb.length + 1) cpb)
                refine wpAnyIn_done (by kernel_rfl) ?_ _
                exact ⟨rfl, _, _, _, _, rfl, H⟩
          · go_simp
            refine hK _ _ ?_
            clear hK K
            obtain ⟨H, TB⟩ := H.temp 9 (str xl)
            try simp only [World.size_alloc] at TB
            refine wpAnyIn_ready (rs := [4]) (by kernel_rfl) (by simp) (AllReadyIn.cons rfl (fun K hK => ?_) AllReadyIn.nil)
            · have cq := H.bb.cell
              go_simp
              refine hK _ _ ?_
              clear hK K cq
              refine wpAnyIn_ready (rs := [7]) (by kernel_rfl) (by simp) (AllReadyIn.cons rfl (fun K hK => ?_) AllReadyIn.nil)
              · refine step_appendIn (by rfl) _ _ 43 (by rfl) Try.underlying43 gi gz0 gz1 gz2 rfl (by rfl) H.rb (by rfl) TB (by rfl) lenb1 lenb2 H.sz ?_
                intro ub' W' hr hg
                refine hK _ _ ?_
                clear hK K
                have H := H.appB hr hg
                clear hr hg TB
                go_simp
                refine wpAnyIn_ready (rs := [8]) (by kernel_rfl) (by simp) (AllReadyIn.cons rfl (fun K hK => ?_) AllReadyIn.nil)
                obtain ⟨ga, cpa, rfl⟩ := ownsRow_succ (by simpa using H.ra)
                have cq := H.ba.cell
                have fq := H.ba.frozen
                go_simp
                refine hK _ _ ?_
                clear hK K cq fq
                have H := H.setA (.slice (some ⟨ga, 0, none⟩) (ka.length + 1) cpa)
                refine wpAnyIn_ready (rs := [9]) (by kernel_rfl) (by simp) (AllReadyIn.cons rfl (fun K hK => ?_) AllReadyIn.nil)
                obtain ⟨gb, cpb, rfl⟩ := ownsRow_succ (by simpa using H.rb)
                have cq := H.bb.cell
                have fq := H.bb.frozen
                go_simp
                refine hK _ _ ?_
                clear hK K cq fq
                have H := H.setB (.slice (some ⟨gb, 0, none⟩) (kb.length + 1) cpb)
                refine wpAnyIn_done (by kernel_rfl) ?_ _
                exact ⟨rfl, _, _, _, _, rfl, H⟩
        · have cq := H.bb.cell
          go_simp
          refine hK _ _ ?_
          clear hK K cq
          refine wpAnyIn_ready (rs := [3, 6]) (by kernel_rfl) (by simp) (AllReadyIn.cons rfl (fun K hK => ?_) (AllReadyIn.cons rfl (fun K hK => ?_) AllReadyIn.nil))
          · refine step_appendIn (by rfl) _ _ 42 (by rfl) Try.underlying42 hi hz0 hz1 hz2 rfl (by rfl) H.ra (by rfl) TA (by rfl) lena1 lena2 H.sz ?_
            intro ua' W' hr hg
            refine hK _ _ ?_
            clear hK K
            have H := H.appA hr hg
            clear hr hg TA
            go_simp
            refine wpAnyIn_ready (rs := [6]) (by kernel_rfl) (by simp) (AllReadyIn.cons rfl (fun K hK => ?_) AllReadyIn.nil)
            · go_simp
              refine hK _ _ ?_
              clear hK K
              obtain ⟨H, TB⟩ := H.temp 9 (str xl)
              try simp only [World.size_alloc] at TB
              refine wpAnyIn_ready (rs := [7]) (by kernel_rfl) (by simp) (AllReadyIn.cons rfl (fun K hK => ?_) AllReadyIn.nil)
              · refine step_appendIn (by rfl) _ _ 43 (by rfl) Try.underlying43 gi gz0 gz1 gz2 rfl (by rfl) H.rb (by rfl) TB (by rfl) lenb1 lenb2 H.sz ?_
                intro ub' W' hr hg
                refine hK _ _ ?_
                clear hK K
                have H := H.appB hr hg
                clear hr hg TB
                go_simp
                refine wpAnyIn_ready (rs := [8]) (by kernel_rfl) (by simp) (AllReadyIn.cons rfl (fun K hK => ?_) AllReadyIn.nil)
                obtain ⟨ga, cpa, rfl⟩ := ownsRow_succ (by simpa using H.ra)
                have cq := H.ba.cell
                have fq := H.ba.frozen
                go_simp
                refine hK _ _ ?_
                clear hK K cq fq
                have H := H.setA (.slice (some ⟨ga, 0, none⟩) (ka.length + 1) cpa)
                refine wpAnyIn_ready (rs := [9]) (by kernel_rfl) (by simp) (AllReadyIn.cons rfl (fun K hK => ?_) AllReadyIn.nil)
                obtain ⟨gb, cpb, rfl⟩ := ownsRow_succ (by simpa using H.rb)
                have cq := H.bb.cell
                have fq := H.bb.frozen
                go_simp
                refine hK _ _ ?_
                clear hK K cq fq
                have H := H.setB (.slice (some ⟨gb, 0, none⟩) (kb.length + 1) cpb)
                refine wpAnyIn_done (by kernel_rfl) ?_ _
                exact ⟨rfl, _, _, _, _, rfl, H⟩
          · go_simp
            refine hK _ _ ?_
            clear hK K
            obtain ⟨H, TB⟩ := H.temp 9 (str xl)
            try simp only [World.size_alloc] at TB
            have TA := TA.alloc (.cells #[(str xl)] 9)
            refine wpAnyIn_ready (rs := [3]) (by kernel_rfl) (by simp) (AllReadyIn.cons rfl (fun K hK => ?_) AllReadyIn.nil)
            · refine step_appendIn (by rfl) _ _ 42 (by rfl) Try.underlying42 hi hz0 hz1 hz2 rfl (by rfl) H.ra (by rfl) TA (by rfl) lena1 lena2 H.sz ?_
              intro ua' W' hr hg
              refine hK _ _ ?_
              clear hK K
              have TB := temp_kept TB H.ra hg (by decide)
              have H := H.appA hr hg
              clear hr hg TA
              go_simp
              refine wpAnyIn_ready (rs := [7]) (by kernel_rfl) (by simp) (AllReadyIn.cons rfl (fun K hK => ?_) AllReadyIn.nil)
              · refine step_appendIn (by rfl) _ _ 43 (by rfl) Try.underlying43 gi gz0 gz1 gz2 rfl (by rfl) H.rb (by rfl) TB (by rfl) lenb1 lenb2 H.sz ?_
                intro ub' W' hr hg
                refine hK _ _ ?_
                clear hK K
                have H := H.appB hr hg
                clear hr hg TB
                go_simp
                refine wpAnyIn_ready (rs := [8]) (by kernel_rfl) (by simp) (AllReadyIn.cons rfl (fun K hK => ?_) AllReadyIn.nil)
                obtain ⟨ga, cpa, rfl⟩ := ownsRow_succ (by simpa using H.ra)
                have cq := H.ba.cell
                have fq := H.ba.frozen
                go_simp
                refine hK _ _ ?_
                clear hK K cq fq
                have H := H.setA (.slice (some ⟨ga, 0, none⟩) (ka.length + 1) cpa)
                refine wpAnyIn_ready (rs := [9]) (by kernel_rfl) (by simp) (AllReadyIn.cons rfl (fun K hK => ?_) AllReadyIn.nil)
                obtain ⟨gb, cpb, rfl⟩ := ownsRow_succ (by simpa using H.rb)
                have cq := H.bb.cell
                have fq := H.bb.frozen
                go_simp
                refine hK _ _ ?_
                clear hK K cq fq
                have H := H.setB (.slice (some ⟨gb, 0, none⟩) (kb.length + 1) cpb)
                refine wpAnyIn_done (by kernel_rfl) ?_ _
                exact ⟨rfl, _, _, _, _, rfl, H⟩
        · go_simp
          refine hK _ _ ?_
          clear hK K
          obtain ⟨H, TB⟩ := H.temp 9 (str xl)
          try simp only [World.size_alloc] at TB
          have TA := TA.alloc (.cells #[(str xl)] 9)
          refine wpAnyIn_ready (rs := [3, 4]) (by kernel_rfl) (by simp) (AllReadyIn.cons rfl (fun K hK => ?_) (AllReadyIn.cons rfl (fun K hK => ?_) AllReadyIn.nil))
          · refine step_appendIn (by rfl) _ _ 42 (by rfl) Try.underlying42 hi hz0 hz1 hz2 rfl (by rfl) H.ra (by rfl) TA (by rfl) lena1 lena2 H.sz ?_
            intro ua' W' hr hg
            refine hK _ _ ?_
            clear hK K
            have TB := temp_kept TB H.ra hg (by decide)
            have H := H.appA hr hg
            clear hr hg TA
            go_simp
            refine wpAnyIn_ready (rs := [4]) (by kernel_rfl) (by simp) (AllReadyIn.cons rfl (fun K hK => ?_) AllReadyIn.nil)
            · have cq := H.bb.cell
              go_simp
              refine hK _ _ ?_
              clear hK K cq
              refine wpAnyIn_ready (rs := [7]) (by kernel_rfl) (by simp) (AllReadyIn.cons rfl (fun K hK => ?_) AllReadyIn.nil)
              · refine step_appendIn (by rfl) _ _ 43 (by rfl) Try.underlying43 gi gz0 gz1 gz2 rfl (by rfl) H.rb (by rfl) TB (by rfl) lenb1 lenb2 H.sz ?_
                intro ub' W' hr hg
                refine hK _ _ ?_
                clear hK K
                have H := H.appB hr hg
                clear hr hg TB
                go_simp
                refine wpAnyIn_ready (rs := [8]) (by kernel_rfl) (by simp) (AllReadyIn.cons rfl (fun K hK => ?_) AllReadyIn.nil)
                obtain ⟨ga, cpa, rfl⟩ := ownsRow_succ (by simpa using H.ra)
                have cq := H.ba.cell
                have fq := H.ba.frozen
                go_simp
                refine hK _ _ ?_
                clear hK K cq fq
                have H := H.setA (.slice (some ⟨ga, 0, none⟩) (ka.length + 1) cpa)
                refine wpAnyIn_ready (rs := [9]) (by kernel_rfl) (by simp) (AllReadyIn.cons rfl (fun K hK => ?_) AllReadyIn.nil)
                obtain ⟨gb, cpb, rfl⟩ := ownsRow_succ (by simpa using H.rb)
                have cq := H.bb.cell
                have fq := H.bb.frozen
                go_simp
                refine hK _ _ ?_
                clear hK K cq fq
                have H := H.setB (.slice (some ⟨gb, 0, none⟩) (kb.length + 1) cpb)
                refine wpAnyIn_done (by kernel_rfl) ?_ _
                exact ⟨rfl, _, _, _, _, rfl, H⟩
          · have cq := H.bb.cell
            go_simp
            refine hK _ _ ?_
            clear hK K cq
            refine wpAnyIn_ready (rs := [3]) (by kernel_rfl) (by simp) (AllReadyIn.cons rfl (fun K hK => ?_) AllReadyIn.nil)
            · refine step_appendIn (by rfl) _ _ 42 (by rfl) Try.underlying42 hi hz0 hz1 hz2 rfl (by rfl) H.ra (by rfl) TA (by rfl) lena1 lena2 H.sz ?_
              intro ua' W' hr hg
              refine hK _ _ ?_
              clear hK K
              have TB := temp_kept TB H.ra hg (by decide)
              have H := H.appA hr hg
              clear hr hg TA
              go_simp
              refine wpAnyIn_ready (rs := [7]) (by kernel_rfl) (by simp) (AllReadyIn.cons rfl (fun K hK => ?_) AllReadyIn.nil)
              · refine step_appendIn (by rfl) _ _ 43 (by rfl) Try.underlying43 gi gz0 gz1 gz2 rfl (by rfl) H.rb (by rfl) TB (by rfl) lenb1 lenb2 H.sz ?_
                intro ub' W' hr hg
                refine hK _ _ ?_
                clear hK K
                have H := H.appB hr hg
                clear hr hg TB
                go_simp
                refine wpAnyIn_ready (rs := [8]) (by kernel_rfl) (by simp) (AllReadyIn.cons rfl (fun K hK => ?_) AllReadyIn.nil)
                obtain ⟨ga, cpa, rfl⟩ := ownsRow_succ (by simpa using H.ra)
                have cq := H.ba.cell
                have fq := H.ba.frozen
                go_simp
                refine hK _ _ ?_
                clear hK K cq fq
                have H := H.setA (.slice (some ⟨ga, 0, none⟩) (ka.length + 1) cpa)
                refine wpAnyIn_ready (rs := [9]) (by kernel_rfl) (by simp) (AllReadyIn.cons rfl (fun K hK => ?_) AllReadyIn.nil)
                obtain ⟨gb, cpb, rfl⟩ := ownsRow_succ (by simpa using H.rb)
                have cq := H.bb.cell
                have fq := H.bb.frozen
                go_simp
                refine hK _ _ ?_
                clear hK K cq fq
                have H := H.setB (.slice (some ⟨gb, 0, none⟩) (kb.length + 1) cpb)
                refine wpAnyIn_done (by kernel_rfl) ?_ _
                exact ⟨rfl, _, _, _, _, rfl, H⟩
      · have cq := H.bb.cell
        go_simp
        refine hK _ _ ?_
        clear hK K cq
        refine wpAnyIn_ready (rs := [0, 6]) (by kernel_rfl) (by simp) (AllReadyIn.cons rfl (fun K hK => ?_) (AllReadyIn.cons rfl (fun K hK => ?_) AllReadyIn.nil))
        · have cq := H.ba.cell
          go_simp
          refine hK _ _ ?_
          clear hK K cq
          refine wpAnyIn_ready (rs := [3, 6]) (by kernel_rfl) (by simp) (AllReadyIn.cons rfl (fun K hK => ?_) (AllReadyIn.cons rfl (fun K hK => ?_) AllReadyIn.nil))
          · refine step_appendIn (by rfl) _ _ 42 (by rfl) Try.underlying42 hi hz0 hz1 hz2 rfl (by rfl) H.ra (by rfl) TA (by rfl) lena1 lena2 H.sz ?_
            intro ua' W' hr hg
            refine hK _ _ ?_
            clear hK K
            have H := H.appA hr hg
            clear hr hg TA
            go_simp
            refine wpAnyIn_ready (rs := [6]) (by kernel_rfl) (by simp) (AllReadyIn.cons rfl (fun K hK => ?_) AllReadyIn.nil)
            · go_simp
              refine hK _ _ ?_
              clear hK K
              obtain ⟨H, TB⟩ := H.temp 9 (str xl)
              try simp only [World.size_alloc] at TB
              refine wpAnyIn_ready (rs := [7]) (by kernel_rfl) (by simp) (AllReadyIn.cons rfl (fun K hK => ?_) AllReadyIn.nil)
              · refine step_appendIn (by rfl) _ _ 43 (by rfl) Try.underlying43 gi gz0 gz1 gz2 rfl (by rfl) H.rb (by rfl) TB (by rfl) lenb1 lenb2 H.sz ?_
                intro ub' W' hr hg
                refine hK _ _ ?_
                clear hK K
                have H := H.appB hr hg
                clear hr hg TB
                go_simp
                refine wpAnyIn_ready (rs := [8]) (by kernel_rfl) (by simp) (AllReadyIn.cons rfl (fun K hK => ?_) AllReadyIn.nil)
                obtain ⟨ga, cpa, rfl⟩ := ownsRow_succ (by simpa using H.ra)
                have cq := H.ba.cell
                have fq := H.ba.frozen
                go_simp
                refine hK _ _ ?_
                clear hK K cq fq
                have H := H.setA (.slice (some ⟨ga, 0, none⟩) (ka.length + 1) cpa)
                refine wpAnyIn_ready (rs := [9]) (by kernel_rfl) (by simp) (AllReadyIn.cons rfl (fun K hK => ?_) AllReadyIn.nil)
                obtain ⟨gb, cpb, rfl⟩ := ownsRow_succ (by simpa using H.rb)
                have cq := H.bb.cell
                have fq := H.bb.frozen
                go_simp
                refine hK _ _ ?_
                clear hK K cq fq
                have H := H.setB (.slice (some ⟨gb, 0, none⟩) (kb.length + 1) cpb)
                refine wpAnyIn_done (by kernel_rfl) ?_ _
                exact ⟨rfl, _, _, _, _, rfl, H⟩
          · go_simp
            refine hK _ _ ?_
            clear hK K
            obtain ⟨H, TB⟩ := H.temp 9 (str xl)
            try simp only [World.size_alloc] at TB
            have TA := TA.alloc (.cells #[(str xl)] 9)
            refine wpAnyIn_ready (rs := [3]) (by kernel_rfl) (by simp) (AllReadyIn.cons rfl (fun K hK => ?_) AllReadyIn.nil)
            · refine step_appendIn (by rfl) _ _ 42 (by rfl) Try.underlying42 hi hz0 hz1 hz2 rfl (by rfl) H.ra (by rfl) TA (by rfl) lena1 lena2 H.sz ?_
              intro ua' W' hr hg
              refine hK _ _ ?_
              clear hK K
              have TB := temp_kept TB H.ra hg (by decide)
              have H := H.appA hr hg
              clear hr hg TA
              go_simp
              refine wpAnyIn_ready (rs := [7]) (by kernel_rfl) (by simp) (AllReadyIn.cons rfl (fun K hK => ?_) AllReadyIn.nil)
              · refine step_appendIn (by rfl) _ _ 43 (by rfl) Try.underlying43 gi gz0 gz1 gz2 rfl (by rfl) H.rb (by rfl) TB (by rfl) lenb1 lenb2 H.sz ?_
                intro ub' W' hr hg
                refine hK _ _ ?_
                clear hK K
                have H := H.appB hr hg
                clear hr hg TB
                go_simp
                refine wpAnyIn_ready (rs := [8]) (by kernel_rfl) (by simp) (AllReadyIn.cons rfl (fun K hK => ?_) AllReadyIn.nil)
                obtain ⟨ga, cpa, rfl⟩ := ownsRow_succ (by simpa using H.ra)
                have cq := H.ba.cell
                have fq := H.ba.frozen
                go_simp
                refine hK _ _ ?_
                clear hK K cq fq
                have H := H.setA (.slice (some ⟨ga, 0, none⟩) (ka.length + 1) cpa)
                refine wpAnyIn_ready (rs := [9]) (by kernel_rfl) (by simp) (AllReadyIn.cons rfl (fun K hK => ?_) AllReadyIn.nil)
                obtain ⟨gb, cpb, rfl⟩ := ownsRow_succ (by simpa using H.rb)
                have cq := H.bb.cell
                have fq := H.bb.frozen
                go_simp
                refine hK _ _ ?_
                clear hK K cq fq
                have H := H.setB (.slice (some ⟨gb, 0, none⟩) (kb.length + 1) cpb)
                refine wpAnyIn_done (by kernel_rfl) ?_ _
                exact ⟨rfl, _, _, _, _, rfl, H⟩
        · go_simp
          refine hK _ _ ?_
          clear hK K
          obtain ⟨H, TB⟩ := H.temp 9 (str xl)
          try simp only [World.size_alloc] at TB
          have TA := TA.alloc (.cells #[(str xl)] 9)
          refine wpAnyIn_ready (rs := [0]) (by kernel_rfl) (by simp) (AllReadyIn.cons rfl (fun K hK => ?_) AllReadyIn.nil)
          · have cq := H.ba.cell
            go_simp
            refine hK _ _ ?_
            clear hK K cq
            refine wpAnyIn_ready (rs := [3]) (by kernel_rfl) (by simp) (AllReadyIn.cons rfl (fun K hK => ?_) AllReadyIn.nil)
            · refine step_appendIn (by rfl) _ _ 42 (by rfl) Try.underlying42 hi hz0 hz1 hz2 rfl (by rfl) H.ra (by rfl) TA (by rfl) lena1 lena2 H.sz ?_
              intro ua' W' hr hg
              refine hK _ _ ?_
              clear hK K
              have TB := temp_kept TB H.ra hg (by decide)
              have H := H.appA hr hg
              clear hr hg TA
              go_simp
              refine wpAnyIn_ready (rs := [7]) (by kernel_rfl) (by simp) (AllReadyIn.cons rfl (fun K hK => ?_) AllReadyIn.nil)
              · refine step_appendIn (by rfl) _ _ 43 (by rfl) Try.underlying43 gi gz0 gz1 gz2 rfl (by rfl) H.rb (by rfl) TB (by rfl) lenb1 lenb2 H.sz ?_
                intro ub' W' hr hg
                refine hK _ _ ?_
                clear hK K
                have H := H.appB hr hg
                clear hr hg TB
                go_simp
                refine wpAnyIn_ready (rs := [8]) (by kernel_rfl) (by simp) (AllReadyIn.cons rfl (fun K hK => ?_) AllReadyIn.nil)
                obtain ⟨ga, cpa, rfl⟩ := ownsRow_succ (by simpa using H.ra)
                have cq := H.ba.cell
                have fq := H.ba.frozen
                go_simp
                refine hK _ _ ?_
                clear hK K cq fq
                have H := H.setA (.slice (some ⟨ga, 0, none⟩) (ka.length + 1) cpa)
                refine wpAnyIn_ready (rs := [9]) (by kernel_rfl) (by simp) (AllReadyIn.cons rfl (fun K hK => ?_) AllReadyIn.nil)
                obtain ⟨gb, cpb, rfl⟩ := ownsRow_succ (by simpa using H.rb)
                have cq := H.bb.cell
                have fq := H.bb.frozen
                go_simp
                refine hK _ _ ?_
                clear hK K cq fq
                have H := H.setB (.slice (some ⟨gb, 0, none⟩) (kb.length + 1) cpb)
                refine wpAnyIn_done (by kernel_rfl) ?_ _
                exact ⟨rfl, _, _, _, _, rfl, H⟩
      · go_simp
        refine hK _ _ ?_
        clear hK K
        obtain ⟨H, TB⟩ := H.temp 9 (str xl)
        try simp only [World.size_alloc] at TB
        have TA := TA.alloc (.cells #[(str xl)] 9)
        refine wpAnyIn_ready (rs := [0, 4]) (by kernel_rfl) (by simp) (AllReadyIn.cons rfl (fun K hK => ?_) (AllReadyIn.cons rfl (fun K hK => ?_) AllReadyIn.nil))
        · have cq := H.ba.cell
          go_simp
          refine hK _ _ ?_
          clear hK K cq
          refine wpAnyIn_ready (rs := [3, 4]) (by kernel_rfl) (by simp) (AllReadyIn.cons rfl (fun K hK => ?_) (AllReadyIn.cons rfl (fun K hK => ?_) AllReadyIn.nil))
          · refine step_appendIn (by rfl) _ _ 42 (by rfl) Try.underlying42 hi hz0 hz1 hz2 rfl (by rfl) H.ra (by rfl) TA (by rfl) lena1 lena2 H.sz ?_
            intro ua' W' hr hg
            refine hK _ _ ?_
            clear hK K
            have TB := temp_kept TB H.ra hg (by decide)
            have H := H.appA hr hg
            clear hr hg TA
            go_simp
            refine wpAnyIn_ready (rs := [4]) (by kernel_rfl) (by simp) (AllReadyIn.cons rfl (fun K hK => ?_) AllReadyIn.nil)
            · have cq := H.bb.cell
              go_simp
              refine hK _ _ ?_
              clear hK K cq
              refine wpAnyIn_ready (rs := [7]) (by kernel_rfl) (by simp) (AllReadyIn.cons rfl (fun K hK => ?_) AllReadyIn.nil)
              · refine step_appendIn (by rfl) _ _ 43 (by rfl) Try.underlying43 gi gz0 gz1 gz2 rfl (by rfl) H.rb (by rfl) TB (by rfl) lenb1 lenb2 H.sz ?_
                intro ub' W' hr hg
                refine hK _ _ ?_
                clear hK K
                have H := H.appB hr hg
                clear hr hg TB
                go_simp
                refine wpAnyIn_ready (rs := [8]) (by kernel_rfl) (by simp) (AllReadyIn.cons rfl (fun K hK => ?_) AllReadyIn.nil)
                obtain ⟨ga, cpa, rfl⟩ := ownsRow_succ (by simpa using H.ra)
                have cq := H.ba.cell
                have fq := H.ba.frozen
                go_simp
                refine hK _ _ ?_
                clear hK K cq fq
                have H := H.setA (.slice (some ⟨ga, 0, none⟩) (ka.length + 1) cpa)
                refine wpAnyIn_ready (rs := [9]) (by kernel_rfl) (by simp) (AllReadyIn.cons rfl (fun K hK => ?_) AllReadyIn.nil)
                obtain ⟨gb, cpb, rfl⟩ := ownsRow_succ (by simpa using H.rb)
                have cq := H.bb.cell
                have fq := H.bb.frozen
                go_simp
                refine hK _ _ ?_
                clear hK K cq fq
                have H := H.setB (.slice (some ⟨gb, 0, none⟩) (kb.length + 1) cpb)
                refine wpAnyIn_done (by kernel_rfl) ?_ _
                exact ⟨rfl, _, _, _, _, rfl, H⟩
          · have cq := H.bb.cell
            go_simp
            refine hK _ _ ?_
            clear hK K cq
            refine wpAnyIn_ready (rs := [3]) (by kernel_rfl) (by simp) (AllReadyIn.cons rfl (fun K hK => ?_) AllReadyIn.nil)
            · refine step_appendIn (by rfl) _ _ 42 (by rfl) Try.underlying42 hi hz0 hz1 hz2 rfl (by rfl) H.ra (by rfl) TA (by rfl) lena1 lena2 H.sz ?_
              intro ua' W' hr hg
              refine hK _ _ ?_
              clear hK K
              have TB := temp_kept TB H.ra hg (by decide)
              have H := H.appA hr hg
              clear hr hg TA
              go_simp
              refine wpAnyIn_ready (rs := [7]) (by kernel_rfl) (by simp) (AllReadyIn.cons rfl (fun K hK => ?_) AllReadyIn.nil)
              · refine step_appendIn (by rfl) _ _ 43 (by rfl) Try.underlying43 gi gz0 gz1 gz2 rfl (by rfl) H.rb (by rfl) TB (by rfl) lenb1 lenb2 H.sz ?_
                intro ub' W' hr hg
                refine hK _ _ ?_
                clear hK K
                have H := H.appB hr hg
                clear hr hg TB
                go_simp
                refine wpAnyIn_ready (rs := [8]) (by kernel_rfl) (by simp) (AllReadyIn.cons rfl (fun K hK => ?_) AllReadyIn.nil)
                obtain ⟨ga, cpa, rfl⟩ := ownsRow_succ (by simpa using H.ra)
                have cq := H.ba.cell
                have fq := H.ba.frozen
                go_simp
                refine hK _ _ ?_
                clear hK K cq fq
                have H := H.setA (.slice (some ⟨ga, 0, none⟩) (ka.length + 1) cpa)
                refine wpAnyIn_ready (rs := [9]) (by kernel_rfl) (by simp) (AllReadyIn.cons rfl (fun K hK => ?_) AllReadyIn.nil)
                obtain ⟨gb, cpb, rfl⟩ := ownsRow_succ (by simpa using H.rb)
                have cq := H.bb.cell
                have fq := H.bb.frozen
                go_simp
                refine hK _ _ ?_
                clear hK K cq fq
                have H := H.setB (.slice (some ⟨gb, 0, none⟩) (kb.length + 1) cpb)
                refine wpAnyIn_done (by kernel_rfl) ?_ _
                exact ⟨rfl, _, _, _, _, rfl, H⟩
        · have cq := H.bb.cell
          go_simp
          refine hK _ _ ?_
          clear hK K cq
          refine wpAnyIn_ready (rs := [0]) (by kernel_rfl) (by simp) (AllReadyIn.cons rfl (fun K hK => ?_) AllReadyIn.nil)
          · have cq := H.ba.cell
            go_simp
            refine hK _ _ ?_
            clear hK K cq
            refine wpAnyIn_ready (rs := [3]) (by kernel_rfl) (by simp) (AllReadyIn.cons rfl (fun K hK => ?_) AllReadyIn.nil)
            · refine step_appendIn (by rfl) _ _ 42 (by rfl) Try.underlying42 hi hz0 hz1 hz2 rfl (by rfl) H.ra (by rfl) TA (by rfl) lena1 lena2 H.sz ?_
              intro ua' W' hr hg
              refine hK _ _ ?_
              clear hK K
              have TB := temp_kept TB H.ra hg (by decide)
              have H := H.appA hr hg
              clear hr hg TA
              go_simp
              refine wpAnyIn_ready (rs := [7]) (by kernel_rfl) (by simp) (AllReadyIn.cons rfl (fun K hK => ?_) AllReadyIn.nil)
              · refine step_appendIn (by rfl) _ _ 43 (by rfl) Try.underlying43 gi gz0 gz1 gz2 rfl (by rfl) H.rb (by rfl) TB (by rfl) lenb1 lenb2 H.sz ?_
                intro ub' W' hr hg
                refine hK _ _ ?_
                clear hK K
                have H := H.appB hr hg
                clear hr hg TB
                go_simp
                refine wpAnyIn_ready (rs := [8]) (by kernel_rfl) (by simp) (AllReadyIn.cons rfl (fun K hK => ?_) AllReadyIn.nil)
                obtain ⟨ga, cpa, rfl⟩ := ownsRow_succ (by simpa using H.ra)
                have cq := H.ba.cell
                have fq := H.ba.frozen
                go_simp
                refine hK _ _ ?_
                clear hK K cq fq
                have H := H.setA (.slice (some ⟨ga, 0, none⟩) (ka.length + 1) cpa)
                refine wpAnyIn_ready (rs := [9]) (by kernel_rfl) (by simp) (AllReadyIn.cons rfl (fun K hK => ?_) AllReadyIn.nil)
                obtain ⟨gb, cpb, rfl⟩ := ownsRow_succ (by simpa using H.rb)
                have cq := H.bb.cell
                have fq := H.bb.frozen
                go_simp
                refine hK _ _ ?_
                clear hK K cq fq
                have H := H.setB (.slice (some ⟨gb, 0, none⟩) (kb.length + 1) cpb)
                refine wpAnyIn_done (by kernel_rfl) ?_ _
                exact ⟨rfl, _, _, _, _, rfl, H⟩
    · have cq := H.bb.cell
      go_simp
      refine hK _ _ ?_
      clear hK K cq
      refine wpAnyIn_ready (rs := [0, 2, 6]) (by kernel_rfl) (by simp) (AllReadyIn.cons rfl (fun K hK => ?_) (AllReadyIn.cons rfl (fun K hK => ?_) (AllReadyIn.cons rfl (fun K hK => ?_) AllReadyIn.nil)))
      · have cq := H.ba.cell
        go_simp
        refine hK _ _ ?_
        clear hK K cq
        refine wpAnyIn_ready (rs := [2, 6]) (by kernel_rfl) (by simp) (AllReadyIn.cons rfl (fun K hK => ?_) (AllReadyIn.cons rfl (fun K hK => ?_) AllReadyIn.nil))
        · go_simp
          refine hK _ _ ?_
          clear hK K
          obtain ⟨H, TA⟩ := H.temp 3 (.int .i64 kn)
          try simp only [World.size_alloc] at TA
          refine wpAnyIn_ready (rs := [3, 6]) (by kernel_rfl) (by simp) (AllReadyIn.cons rfl (fun K hK => ?_) (AllReadyIn.cons rfl (fun K hK => ?_) AllReadyIn.nil))
          · refine step_appendIn (by rfl) _ _ 42 (by rfl) Try.underlying42 hi hz0 hz1 hz2 rfl (by rfl) H.ra (by rfl) TA (by rfl) lena1 lena2 H.sz ?_
            intro ua' W' hr hg
            refine hK _ _ ?_
            clear hK K
            have H := H.appA hr hg
            clear hr hg TA
            go_simp
            refine wpAnyIn_ready (rs := [6]) (by kernel_rfl) (by simp) (AllReadyIn.cons rfl (fun K hK => ?_) AllReadyIn.nil)
            · go_simp
              refine hK _ _ ?_
              clear hK K
              obtain ⟨H, TB⟩ := H.temp 9 (str xl)
              try simp only [World.size_alloc] at TB
              refine wpAnyIn_ready (rs := [7]) (by kernel_rfl) (by simp) (AllReadyIn.cons rfl (fun K hK => ?_) AllReadyIn.nil)
              · refine step_appendIn (by rfl) _ _ 43 (by rfl) Try.underlying43 gi gz0 gz1 gz2 rfl (by rfl) H.rb (by rfl) TB (by rfl) lenb1 lenb2 H.sz ?_
                intro ub' W' hr hg
                refine hK _ _ ?_
                clear hK K
                have H := H.appB hr hg
                clear hr hg TB
                go_simp
                refine wpAnyIn_ready (rs := [8]) (by kernel_rfl) (by simp) (AllReadyIn.cons rfl (fun K hK => ?_) AllReadyIn.nil)
                obtain ⟨ga, cpa, rfl⟩ := ownsRow_succ (by simpa using H.ra)
                have cq := H.ba.cell
                have fq := H.ba.frozen
                go_simp
                refine hK _ _ ?_
                clear hK K cq fq
                have H := H.setA (.slice (some ⟨ga, 0, none⟩) (ka.length + 1) cpa)
                refine wpAnyIn_ready (rs := [9]) (by kernel_rfl) (by simp) (AllReadyIn.cons rfl (fun K hK => ?_) AllReadyIn.nil)
                obtain ⟨gb, cpb, rfl⟩ := ownsRow_succ (by simpa using H.rb)
                have cq := H.bb.cell
                have fq := H.bb.frozen
                go_simp
                refine hK _ _ ?_
                clear hK K cq fq
                have H := H.setB (.slice (some ⟨gb, 0, none⟩) (kb.length + 1) cpb)
                refine wpAnyIn_done (by kernel_rfl) ?_ _
                exact ⟨rfl, _, _, _, _, rfl, H⟩
          · go_simp
            refine hK _ _ ?_
            clear hK K
            obtain ⟨H, TB⟩ := H.temp 9 (str xl)
            try simp only [World.size_alloc] at TB
            have TA := TA.alloc (.cells #[(str xl)] 9)
            refine wpAnyIn_ready (rs := [3]) (by kernel_rfl) (by simp) (AllReadyIn.cons rfl (fun K hK => ?_) AllReadyIn.nil)
            · refine step_appendIn (by rfl) _ _ 42 (by rfl) Try.underlying42 hi hz0 hz1 hz2 rfl (by rfl) H.ra (by rfl) TA (by rfl) lena1 lena2 H.sz ?_
              intro ua' W' hr hg
              refine hK _ _ ?_
              clear hK K
              have TB := temp_kept TB H.ra hg (by decide)
              have H := H.appA hr hg
              clear hr hg TA
              go_simp
              refine wpAnyIn_ready (rs := [7]) (by kernel_rfl) (by simp) (AllReadyIn.cons rfl (fun K hK => ?_) AllReadyIn.nil)
              · refine step_appendIn (by rfl) _ _ 43 (by rfl) Try.underlying43 gi gz0 gz1 gz2 rfl (by rfl) H.rb (by rfl) TB (by rfl) lenb1 lenb2 H.sz ?_
                intro ub' W' hr hg
                refine hK _ _ ?_
                clear hK K
                have H := H.appB hr hg
                clear hr hg TB
                go_simp
                refine wpAnyIn_ready (rs := [8]) (by kernel_rfl) (by simp) (AllReadyIn.cons rfl (fun K hK => ?_) AllReadyIn.nil)
                obtain ⟨ga, cpa, rfl⟩ := ownsRow_succ (by simpa using H.ra)
                have cq := H.ba.cell
                have fq := H.ba.frozen
                go_simp
                refine hK _ _ ?_
                clear hK K cq fq
                have H := H.setA (.slice (some ⟨ga, 0, none⟩) (ka.length + 1) cpa)
                refine wpAnyIn_ready (rs := [9]) (by kernel_rfl) (by simp) (AllReadyIn.cons rfl (fun K hK => ?_) AllReadyIn.nil)
                obtain ⟨gb, cpb, rfl⟩ := ownsRow_succ (by simpa using H.rb)
                have cq := H.bb.cell
                have fq := H.bb.frozen
                go_simp
                refine hK _ _ ?_
                clear hK K cq fq
                have H := H.setB (.slice (some ⟨gb, 0, none⟩) (kb.length + 1) cpb)
                refine wpAnyIn_done (by kernel_rfl) ?_ _
                exact ⟨rfl, _, _, _, _, rfl, H⟩
        · go_simp
          refine hK _ _ ?_
          clear hK K
          obtain ⟨H, TB⟩ := H.temp 9 (str xl)
          try simp only [World.size_alloc] at TB
          refine wpAnyIn_ready (rs := [2]) (by kernel_rfl) (by simp) (AllReadyIn.cons rfl (fun K hK => ?_) AllReadyIn.nil)
          · go_simp
            refine hK _ _ ?_
            clear hK K
            obtain ⟨H, TA⟩ := H.temp 3 (.int .i64 kn)
            try simp only [World.size_alloc] at TA
            have TB := TB.alloc (.cells #[(.int .i64 kn)] 3)
            refine wpAnyIn_ready (rs := [3]) (by kernel_rfl) (by simp) (AllReadyIn.cons rfl (fun K hK => ?_) AllReadyIn.nil)
            · refine step_appendIn (by rfl) _ _ 42 (by rfl) Try.underlying42 hi hz0 hz1 hz2 rfl (by rfl) H.ra (by rfl) TA (by rfl) lena1 lena2 H.sz ?_
              intro ua' W' hr hg
              refine hK _ _ ?_
              clear hK K
              have TB := temp_kept TB H.ra hg (by decide)
              have H := H.appA hr hg
              clear hr hg TA
              go_simp
              refine wpAnyIn_ready (rs := [7]) (by kernel_rfl) (by simp) (AllReadyIn.cons rfl (fun K hK => ?_) AllReadyIn.nil)
              · refine step_appendIn (by rfl) _ _ 43 (by rfl) Try.underlying43 gi gz0 gz1 gz2 rfl (by rfl) H.rb (by rfl) TB (by rfl) lenb1 lenb2 H.sz ?_
                intro ub' W' hr hg
                refine hK _ _ ?_
                clear hK K
                have H := H.appB hr hg
                clear hr hg TB
                go_simp
                refine wpAnyIn_ready (rs := [8]) (by kernel_rfl) (by simp) (AllReadyIn.cons rfl (fun K hK => ?_) AllReadyIn.nil)
                obtain ⟨ga, cpa, rfl⟩ := ownsRow_succ (by simpa using H.ra)
                have cq := H.ba.cell
                have fq := H.ba.frozen
                go_simp
                refine hK _ _ ?_
                clear hK K cq fq
                have H := H.setA (.slice (some ⟨ga, 0, none⟩) (ka.length + 1) cpa)
                refine wpAnyIn_ready (rs := [9]) (by kernel_rfl) (by simp) (AllReadyIn.cons rfl (fun K hK => ?_) AllReadyIn.nil)
                obtain ⟨gb, cpb, rfl⟩ := ownsRow_succ (by simpa using H.rb)
                have cq := H.bb.cell
                have fq := H.bb.frozen
                go_simp
                refine hK _ _ ?_
                clear hK K cq fq
                have H := H.setB (.slice (some ⟨gb, 0, none⟩) (kb.length + 1) cpb)
                refine wpAnyIn_done (by kernel_rfl) ?_ _
                exact ⟨rfl, _, _, _, _, rfl, H⟩
      · go_simp
        refine hK _ _ ?_
        clear hK K
        obtain ⟨H, TA⟩ := H.temp 3 (.int .i64 kn)
        try simp only [World.size_alloc] at TA
        refine wpAnyIn_ready (rs := [0, 6]) (by kernel_rfl) (by simp) (AllReadyIn.cons rfl (fun K hK => ?_) (AllReadyIn.cons rfl (fun K hK => ?_) AllReadyIn.nil))
        · have cq := H.ba.cell
          go_simp
          refine hK _ _ ?_
          clear hK K cq
          refine wpAnyIn_ready (rs := [3, 6]) (by kernel_rfl) (by simp) (AllReadyIn.cons rfl (fun K hK => ?_) (AllReadyIn.cons rfl (fun K hK => ?_) AllReadyIn.nil))
          · refine step_appendIn (by rfl) _ _ 42 (by rfl) Try.underlying42 hi hz0 hz1 hz2 rfl (by rfl) H.ra (by rfl) TA (by rfl) lena1 lena2 H.sz ?_
            intro ua' W' hr hg
            refine hK _ _ ?_
            clear hK K
            have H := H.appA hr hg
            clear hr hg TA
            go_simp
            refine wpAnyIn_ready (rs := [6]) (by kernel_rfl) (by simp) (AllReadyIn.cons rfl (fun K hK => ?_) AllReadyIn.nil)
            · go_simp
              refine hK _ _ ?_
              clear hK K
              obtain ⟨H, TB⟩ := H.temp 9 (str xl)
              try simp only [World.size_alloc] at TB
              refine wpAnyIn_ready (rs := [7]) (by kernel_rfl) (by simp) (AllReadyIn.cons rfl (fun K hK => ?_) AllReadyIn.nil)
              · refine step_appendIn (by rfl) _ _ 43 (by rfl) Try.underlying43 gi gz0 gz1 gz2 rfl (by rfl) H.rb (by rfl) TB (by rfl) lenb1 lenb2 H.sz ?_
                intro ub' W' hr hg
                refine hK _ _ ?_
                clear hK K
                have H := H.appB hr hg
                clear hr hg TB
                go_simp
                refine wpAnyIn_ready (rs := [8]) (by kernel_rfl) (by simp) (AllReadyIn.cons rfl (fun K hK => ?_) AllReadyIn.nil)
                obtain ⟨ga, cpa, rfl⟩ := ownsRow_succ (by simpa using H.ra)
                have cq := H.ba.cell
                have fq := H.ba.frozen
                go_simp
                refine hK _ _ ?_
                clear hK K cq fq
                have H := H.setA (.slice (some ⟨ga, 0, none⟩) (ka.length + 1) cpa)
                refine wpAnyIn_ready (rs := [9]) (by kernel_rfl) (by simp) (AllReadyIn.cons rfl (fun K hK => ?_) AllReadyIn.nil)
                obtain ⟨gb, cpb, rfl⟩ := ownsRow_succ (by simpa using H.rb)
                have cq := H.bb.cell
                have fq := H.bb.frozen
                go_simp
                refine hK _ _ ?_
                clear hK K cq fq
                have H := H.setB (.slice (some ⟨gb, 0, none⟩) (kb.length + 1) cpb)
                refine wpAnyIn_done (by kernel_rfl) ?_ _
                exact ⟨rfl, _, _, _, _, rfl, H⟩
          · go_simp
            refine hK _ _ ?_
            clear hK K
            obtain ⟨H, TB⟩ := H.temp 9 (str xl)
            try simp only [World.size_alloc] at TB
            have TA := TA.alloc (.cells #[(str xl)] 9)
            refine wpAnyIn_ready (rs := [3]) (by kernel_rfl) (by simp) (AllReadyIn.cons rfl (fun K hK => ?_) AllReadyIn.nil)
            · refine step_appendIn (by rfl) _ _ 42 (by rfl) Try.underlying42 hi hz0 hz1 hz2 rfl (by rfl) H.ra (by rfl) TA (by rfl) lena1 lena2 H.sz ?_
              intro ua' W' hr hg
              refine hK _ _ ?_
              clear hK K
              have TB := temp_kept TB H.ra hg (by decide)
              have H := H.appA hr hg
              clear hr hg TA
              go_simp
              refine wpAnyIn_ready (rs := [7]) (by kernel_rfl) (by simp) (AllReadyIn.cons rfl (fun K hK => ?_) AllReadyIn.nil)
              · refine step_appendIn (by rfl) _ _ 43 (by rfl) Try.underlying43 gi gz0 gz1 gz2 rfl (by rfl) H.rb (by rfl) TB (by rfl) lenb1 lenb2 H.sz ?_
                intro ub' W' hr hg
                refine hK _ _ ?_
                clear hK K
                have H := H.appB hr hg
                clear hr hg TB
                go_simp
                refine wpAnyIn_ready (rs := [8]) (by kernel_rfl) (by simp) (AllReadyIn.cons rfl (fun K hK => ?_) AllReadyIn.nil)
                obtain ⟨ga, cpa, rfl⟩ := ownsRow_succ (by simpa using H.ra)
                have cq := H.ba.cell
                have fq := H.ba.frozen
                go_simp
                refine hK _ _ ?_
                clear hK K cq fq
                have H := H.setA (.slice (some ⟨ga, 0, none⟩) (ka.length + 1) cpa)
                refine wpAnyIn_ready (rs := [9]) (by kernel_rfl) (by simp) (AllReadyIn.cons rfl (fun K hK => ?_) AllReadyIn.nil)
                obtain ⟨gb, cpb, rfl⟩ := ownsRow_succ (by simpa using H.rb)
                have cq := H.bb.cell
                have fq := H.bb.frozen
                go_simp
                refine hK _ _ ?_
                clear hK K cq fq
                have H := H.setB (.slice (some ⟨gb, 0, none⟩) (kb.length + 1) cpb)
                refine wpAnyIn_done (by kernel_rfl) ?_ _
                exact ⟨rfl, _, _, _, _, rfl, H⟩
        · go_simp
          refine hK _ _ ?_
          clear hK K
          obtain ⟨H, TB⟩ := H.temp 9 (str xl)
          try simp only [World.size_alloc] at TB
          have TA := TA.alloc (.cells #[(str xl)] 9)
          refine wpAnyIn_ready (rs := [0]) (by kernel_rfl) (by simp) (AllReadyIn.cons rfl (fun K hK => ?_) AllReadyIn.nil)
          · have cq := H.ba.cell
            go_simp
            refine hK _ _ ?_
            clear hK K cq
            refine wpAnyIn_ready (rs := [3]) (by kernel_rfl) (by simp) (AllReadyIn.cons rfl (fun K hK => ?_) AllReadyIn.nil)
            · refine step_appendIn (by rfl) _ _ 42 (by rfl) Try.underlying42 hi hz0 hz1 hz2 rfl (by rfl) H.ra (by rfl) TA (by rfl) lena1 lena2 H.sz ?_
              intro ua' W' hr hg
              refine hK _ _ ?_
              clear hK K
              have TB := temp_kept TB H.ra hg (by decide)
              have H := H.appA hr hg
              clear hr hg TA
              go_simp
              refine wpAnyIn_ready (rs := [7]) (by kernel_rfl) (by simp) (AllReadyIn.cons rfl (fun K hK => ?_) AllReadyIn.nil)
              · refine step_appendIn (by rfl) _ _ 43 (by rfl) Try.underlying43 gi gz0 gz1 gz2 rfl (by rfl) H.rb (by rfl) TB (by rfl) lenb1 lenb2 H.sz ?_
                intro ub' W' hr hg
                refine hK _ _ ?_
                clear hK K
                have H := H.appB hr hg
                clear hr hg TB
                go_simp
                refine wpAnyIn_ready (rs := [8]) (by kernel_rfl) (by simp) (AllReadyIn.cons rfl (fun K hK => ?_) AllReadyIn.nil)
                obtain ⟨ga, cpa, rfl⟩ := ownsRow_succ (by simpa using H.ra)
                have cq := H.ba.cell
                have fq := H.ba.frozen
                go_simp
                refine hK _ _ ?_
                clear hK K cq fq
                have H := H.setA (.slice (some ⟨ga, 0, none⟩) (ka.length + 1) cpa)
                refine wpAnyIn_ready (rs := [9]) (by kernel_rfl) (by simp) (AllReadyIn.cons rfl (fun K hK => ?_) AllReadyIn.nil)
                obtain ⟨gb, cpb, rfl⟩ := ownsRow_succ (by simpa using H.rb)
                have cq := H.bb.cell
                have fq := H.bb.frozen
                go_simp
                refine hK _ _ ?_
                clear hK K cq fq
                have H := H.setB (.slice (some ⟨gb, 0, none⟩) (kb.length + 1) cpb)
                refine wpAnyIn_done (by kernel_rfl) ?_ _
                exact ⟨rfl, _, _, _, _, rfl, H⟩
      · go_simp
        refine hK _ _ ?_
        clear hK K
        obtain ⟨H, TB⟩ := H.temp 9 (str xl)
        try simp only [World.size_alloc] at TB
        refine wpAnyIn_ready (rs := [0, 2]) (by kernel_rfl) (by simp) (AllReadyIn.cons rfl (fun K hK => ?_) (AllReadyIn.cons rfl (fun K hK => ?_) AllReadyIn.nil))
        · have cq := H.ba.cell
          go_simp
          refine hK _ _ ?_
          clear hK K cq
          refine wpAnyIn_ready (rs := [2]) (by kernel_rfl) (by simp) (AllReadyIn.cons rfl (fun K hK => ?_) AllReadyIn.nil)
          · go_simp
            refine hK _ _ ?_
            clear hK K
            obtain ⟨H, TA⟩ := H.temp 3 (.int .i64 kn)
            try simp only [World.size_alloc] at TA
            have TB := TB.alloc (.cells #[(.int .i64 kn)] 3)
            refine wpAnyIn_ready (rs := [3]) (by kernel_rfl) (by simp) (AllReadyIn.cons rfl (fun K hK => ?_) AllReadyIn.nil)
            · refine step_appendIn (by rfl) _ _ 42 (by rfl) Try.underlying42 hi hz0 hz1 hz2 rfl (by rfl) H.ra (by rfl) TA (by rfl) lena1 lena2 H.sz ?_
              intro ua' W' hr hg
              refine hK _ _ ?_
              clear hK K
              have TB := temp_kept TB H.ra hg (by decide)
              have H := H.appA hr hg
              clear hr hg TA
              go_simp
              refine wpAnyIn_ready (rs := [7]) (by kernel_rfl) (by simp) (AllReadyIn.cons rfl (fun K hK => ?_) AllReadyIn.nil)
              · refine step_appendIn (by rfl) _ _ 43 (by rfl) Try.underlying43 gi gz0 gz1 gz2 rfl (by rfl) H.rb (by rfl) TB (by rfl) lenb1 lenb2 H.sz ?_
                intro ub' W' hr hg
                refine hK _ _ ?_
                clear hK K
                have H := H.appB hr hg
                clear hr hg TB
                go_simp
                refine wpAnyIn_ready (rs := [8]) (by kernel_rfl) (by simp) (AllReadyIn.cons rfl (fun K hK => ?_) AllReadyIn.nil)
                obtain ⟨ga, cpa, rfl⟩ := ownsRow_succ (by simpa using H.ra)
                have cq := H.ba.cell
                have fq := H.ba.frozen
                go_simp
                refine hK _ _ ?_
                clear hK K cq fq
                have H := H.setA (.slice (some ⟨ga, 0, none⟩) (ka.length + 1) cpa)
                refine wpAnyIn_ready (rs := [9]) (by kernel_rfl) (by simp) (AllReadyIn.cons rfl (fun K hK => ?_) AllReadyIn.nil)
                obtain ⟨gb, cpb, rfl⟩ := ownsRow_succ (by simpa using H.rb)
                have cq := H.bb.cell
                have fq := H.bb.frozen
                go_simp
                refine hK _ _ ?_
                clear hK K cq fq
                have H := H.setB (.slice (some ⟨gb, 0, none⟩) (kb.length + 1) cpb)
                refine wpAnyIn_done (by kernel_rfl) ?_ _
                exact ⟨rfl, _, _, _, _, rfl, H⟩
        · go_simp
          refine hK _ _ ?_
          clear hK K
          obtain ⟨H, TA⟩ := H.temp 3 (.int .i64 kn)
          try simp only [World.size_alloc] at TA
          have TB := TB.alloc (.cells #[(.int .i64 kn)] 3)
          refine wpAnyIn_ready (rs := [0]) (by kernel_rfl) (by simp) (AllReadyIn.cons rfl (fun K hK => ?_) AllReadyIn.nil)
          · have cq := H.ba.cell
            go_simp
            refine hK _ _ ?_
            clear hK K cq
            refine wpAnyIn_ready (rs := [3]) (by kernel_rfl) (by simp) (AllReadyIn.cons rfl (fun K hK => ?_) AllReadyIn.nil)
            · refine step_appendIn (by rfl) _ _ 42 (by rfl) Try.underlying42 hi hz0 hz1 hz2 rfl (by rfl) H.ra (by rfl) TA (by rfl) lena1 lena2 H.sz ?_
              intro ua' W' hr hg
              refine hK _ _ ?_
              clear hK K
              have TB := temp_kept TB H.ra hg (by decide)
              have H := H.appA hr hg
              clear hr hg TA
              go_simp
              refine wpAnyIn_ready (rs := [7]) (by kernel_rfl) (by simp) (AllReadyIn.cons rfl (fun K hK => ?_) AllReadyIn.nil)
              · refine step_appendIn (by rfl) _ _ 43 (by rfl) Try.underlying43 gi gz0 gz1 gz2 rfl (by rfl) H.rb (by rfl) TB (by rfl) lenb1 lenb2 H.sz ?_
                intro ub' W' hr hg
                refine hK _ _ ?_
                clear hK K
                have H := H.appB hr hg
                clear hr hg TB
                go_simp
                refine wpAnyIn_ready (rs := [8]) (by kernel_rfl) (by simp) (AllReadyIn.cons rfl (fun K hK => ?_) AllReadyIn.nil)
                obtain ⟨ga, cpa, rfl⟩ := ownsRow_succ (by simpa using H.ra)
                have cq := H.ba.cell
                have fq := H.ba.frozen
                go_simp
                refine hK _ _ ?_
                clear hK K cq fq
                have H := H.setA (.slice (some ⟨ga, 0, none⟩) (ka.length + 1) cpa)
                refine wpAnyIn_ready (rs := [9]) (by kernel_rfl) (by simp) (AllReadyIn.cons rfl (fun K hK => ?_) AllReadyIn.nil)
                obtain ⟨gb, cpb, rfl⟩ := ownsRow_succ (by simpa using H.rb)
                have cq := H.bb.cell
                have fq := H.bb.frozen
                go_simp
                refine hK _ _ ?_
                clear hK K cq fq
                have H := H.setB (.slice (some ⟨gb, 0, none⟩) (kb.length + 1) cpb)
                refine wpAnyIn_done (by kernel_rfl) ?_ _
                exact ⟨rfl, _, _, _, _, rfl, H⟩
    · go_simp
      refine hK _ _ ?_
      clear hK K
      obtain ⟨H, TB⟩ := H.temp 9 (str xl)
      try simp only [World.size_alloc] at TB
      refine wpAnyIn_ready (rs := [0, 2, 4]) (by kernel_rfl) (by simp) (AllReadyIn.cons rfl (fun K hK => ?_) (AllReadyIn.cons rfl (fun K hK => ?_) (AllReadyIn.cons rfl (fun K hK => ?_) AllReadyIn.nil)))
      · have cq := H.ba.cell
        go_simp
        refine hK _ _ ?_
        clear hK K cq
        refine wpAnyIn_ready (rs := [2, 4]) (by kernel_rfl) (by simp) (AllReadyIn.cons rfl (fun K hK => ?_) (AllReadyIn.cons rfl (fun K hK => ?_) AllReadyIn.nil))
        · go_simp
          refine hK _ _ ?_
          clear hK K
          obtain ⟨H, TA⟩ := H.temp 3 (.int .i64 kn)
          try simp only [World.size_alloc] at TA
          have TB := TB.alloc (.cells #[(.int .i64 kn)] 3)
          refine wpAnyIn_ready (rs := [3, 4]) (by kernel_rfl) (by simp) (AllReadyIn.cons rfl (fun K hK => ?_) (AllReadyIn.cons rfl (fun K hK => ?_) AllReadyIn.nil))
          · refine step_appendIn (by rfl) _ _ 42 (by rfl) Try.underlying42 hi hz0 hz1 hz2 rfl (by rfl) H.ra (by rfl) TA (by rfl) lena1 lena2 H.sz ?_
            intro ua' W' hr hg
            refine hK _ _ ?_
            clear hK K
            have TB := temp_kept TB H.ra hg (by decide)
            have H := H.appA hr hg
            clear hr hg TA
            go_simp
            refine wpAnyIn_ready (rs := [4]) (by kernel_rfl) (by simp) (AllReadyIn.cons rfl (fun K hK => ?_) AllReadyIn.nil)
            · have cq := H.bb.cell
              go_simp
              refine hK _ _ ?_
              clear hK K cq
              refine wpAnyIn_ready (rs := [7]) (by kernel_rfl) (by simp) (AllReadyIn.cons rfl (fun K hK => ?_) AllReadyIn.nil)
              · refine step_appendIn (by rfl) _ _ 43 (by rfl) Try.underlying43 gi gz0 gz1 gz2 rfl (by rfl) H.rb (by rfl) TB (by rfl) lenb1 lenb2 H.sz ?_
                intro ub' W' hr hg
                refine hK _ _ ?_
                clear hK K
                have H := H.appB hr hg
                clear hr hg TB
                go_simp
                refine wpAnyIn_ready (rs := [8]) (by kernel_rfl) (by simp) (AllReadyIn.cons rfl (fun K hK => ?_) AllReadyIn.nil)
                obtain ⟨ga, cpa, rfl⟩ := ownsRow_succ (by simpa using H.ra)
                have cq := H.ba.cell
                have fq := H.ba.frozen
                go_simp
                refine hK _ _ ?_
                clear hK K cq fq
                have H := H.setA (.slice (some ⟨ga, 0, none⟩) (ka.length + 1) cpa)
                refine wpAnyIn_ready (rs := [9]) (by kernel_rfl) (by simp) (AllReadyIn.cons rfl (fun K hK => ?_) AllReadyIn.nil)
                obtain ⟨gb, cpb, rfl⟩ := ownsRow_succ (by simpa using H.rb)
                have cq := H.bb.cell
                have fq := H.bb.frozen
                go_simp
                refine hK _ _ ?_
                clear hK K cq fq
                have H := H.setB (.slice (some ⟨gb, 0, none⟩) (kb.length + 1) cpb)
                refine wpAnyIn_done (by kernel_rfl) ?_ _
                exact ⟨rfl, _, _, _, _, rfl, H⟩
          · have cq := H.bb.cell
            go_simp
            refine hK _ _ ?_
            clear hK K cq
            refine wpAnyIn_ready (rs := [3]) (by kernel_rfl) (by simp) (AllReadyIn.cons rfl (fun K hK => ?_) AllReadyIn.nil)
            · refine step_appendIn (by rfl) _ _ 42 (by rfl) Try.underlying42 hi hz0 hz1 hz2 rfl (by rfl) H.ra (by rfl) TA (by rfl) lena1 lena2 H.sz ?_
              intro ua' W' hr hg
              refine hK _ _ ?_
              clear hK K
              have TB := temp_kept TB H.ra hg (by decide)
              have H := H.appA hr hg
              clear hr hg TA
              go_simp
              refine wpAnyIn_ready (rs := [7]) (by kernel_rfl) (by simp) (AllReadyIn.cons rfl (fun K hK => ?_) AllReadyIn.nil)
              · refine step_appendIn (by rfl) _ _ 43 (by rfl) Try.underlying43 gi gz0 gz1 gz2 rfl (by rfl) H.rb (by rfl) TB (by rfl) lenb1 lenb2 H.sz ?_
                intro ub' W' hr hg
                refine hK _ _ ?_
                clear hK K
                have H := H.appB hr hg
                clear hr hg TB
                go_simp
                refine wpAnyIn_ready (rs := [8]) (by kernel_rfl) (by simp) (AllReadyIn.cons rfl (fun K hK => ?_) AllReadyIn.nil)
                obtain ⟨ga, cpa, rfl⟩ := ownsRow_succ (by simpa using H.ra)
                have cq := H.ba.cell
                have fq := H.ba.frozen
                go_simp
                refine hK _ _ ?_
                clear hK K cq fq
                have H := H.setA (.slice (some ⟨ga, 0, none⟩) (ka.length + 1) cpa)
                refine wpAnyIn_ready (rs := [9]) (by kernel_rfl) (by simp) (AllReadyIn.cons rfl (fun K hK => ?_) AllReadyIn.nil)
                obtain ⟨gb, cpb, rfl⟩ := ownsRow_succ (by simpa using H.rb)
                have cq := H.bb.cell
                have fq := H.bb.frozen
                go_simp
                refine hK _ _ ?_
                clear hK K cq fq
                have H := H.setB (.slice (some ⟨gb, 0, none⟩) (kb.length + 1) cpb)
                refine wpAnyIn_done (by kernel_rfl) ?_ _
                exact ⟨rfl, _, _, _, _, rfl, H⟩
        · have cq := H.bb.cell
          go_simp
          refine hK _ _ ?_
          clear hK K cq
          refine wpAnyIn_ready (rs := [2]) (by kernel_rfl) (by simp) (AllReadyIn.cons rfl (fun K hK => ?_) AllReadyIn.nil)
          · go_simp
            refine hK _ _ ?_
            clear hK K
            obtain ⟨H, TA⟩ := H.temp 3 (.int .i64 kn)
            try simp only [World.size_alloc] at TA
            have TB := TB.alloc (.cells #[(.int .i64 kn)] 3)
            refine wpAnyIn_ready (rs := [3]) (by kernel_rfl) (by simp) (AllReadyIn.cons rfl (fun K hK => ?_) AllReadyIn.nil)
            · refine step_appendIn (by rfl) _ _ 42 (by rfl) Try.underlying42 hi hz0 hz1 hz2 rfl (by rfl) H.ra (by rfl) TA (by rfl) lena1 lena2 H.sz ?_
              intro ua' W' hr hg
              refine hK _ _ ?_
              clear hK K
              have TB := temp_kept TB H.ra hg (by decide)
              have H := H.appA hr hg
              clear hr hg TA
              go_simp
              refine wpAnyIn_ready (rs := [7]) (by kernel_rfl) (by simp) (AllReadyIn.cons rfl (fun K hK => ?_) AllReadyIn.nil)
              · refine step_appendIn (by rfl) _ _ 43 (by rfl) Try.underlying43 gi gz0 gz1 gz2 rfl (by rfl) H.rb (by rfl) TB (by rfl) lenb1 lenb2 H.sz ?_
                intro ub' W' hr hg
                refine hK _ _ ?_
                clear hK K
                have H := H.appB hr hg
                clear hr hg TB
                go_simp
                refine wpAnyIn_ready (rs := [8]) (by kernel_rfl) (by simp) (AllReadyIn.cons rfl (fun K hK => ?_) AllReadyIn.nil)
                obtain ⟨ga, cpa, rfl⟩ := ownsRow_succ (by simpa using H.ra)
                have cq := H.ba.cell
                have fq := H.ba.frozen
                go_simp
                refine hK _ _ ?_
                clear hK K cq fq
                have H := H.setA (.slice (some ⟨ga, 0, none⟩) (ka.length + 1) cpa)
                refine wpAnyIn_ready (rs := [9]) (by kernel_rfl) (by simp) (AllReadyIn.cons rfl (fun K hK => ?_) AllReadyIn.nil)
                obtain ⟨gb, cpb, rfl⟩ := ownsRow_succ (by simpa using H.rb)
                have cq := H.bb.cell
                have fq := H.bb.frozen
                go_simp
                refine hK _ _ ?_
                clear hK K cq fq
                have H := H.setB (.slice (some ⟨gb, 0, none⟩) (kb.length + 1) cpb)
                refine wpAnyIn_done (by kernel_rfl) ?_ _
                exact ⟨rfl, _, _, _, _, rfl, H⟩
      · go_simp
        refine hK _ _ ?_
        clear hK K
        obtain ⟨H, TA⟩ := H.temp 3 (.int .i64 kn)
        try simp only [World.size_alloc] at TA
        have TB := TB.alloc (.cells #[(.int .i64 kn)] 3)
        refine wpAnyIn_ready (rs := [0, 4]) (by kernel_rfl) (by simp) (AllReadyIn.cons rfl (fun K hK => ?_) (AllReadyIn.cons rfl (fun K hK => ?_) AllReadyIn.nil))
        · have cq := H.ba.cell
          go_simp
          refine hK _ _ ?_
          clear hK K cq
          refine wpAnyIn_ready (rs := [3, 4]) (by kernel_rfl) (by simp) (AllReadyIn.cons rfl (fun K hK => ?_) (AllReadyIn.cons rfl (fun K hK => ?_) AllReadyIn.nil))
          · refine step_appendIn (by rfl) _ _ 42 (by rfl) Try.underlying42 hi hz0 hz1 hz2 rfl (by rfl) H.ra (by rfl) TA (by rfl) lena1 lena2 H.sz ?_
            intro ua' W' hr hg
            refine hK _ _ ?_
            clear hK K
            have TB := temp_kept TB H.ra hg (by decide)
            have H := H.appA hr hg
            clear hr hg TA
            go_simp
            refine wpAnyIn_ready (rs := [4]) (by kernel_rfl) (by simp) (AllReadyIn.cons rfl (fun K hK => ?_) AllReadyIn.nil)
            · have cq := H.bb.cell
              go_simp
              refine hK _ _ ?_
              clear hK K cq
              refine wpAnyIn_ready (rs := [7]) (by kernel_rfl) (by simp) (AllReadyIn.cons rfl (fun K hK => ?_) AllReadyIn.nil)
              · refine step_appendIn (by rfl) _ _ 43 (by rfl) Try.underlying43 gi gz0 gz1 gz2 rfl (by rfl) H.rb (by rfl) TB (by rfl) lenb1 lenb2 H.sz ?_
                intro ub' W' hr hg
                refine hK _ _ ?_
                clear hK K
                have H := H.appB hr hg
                clear hr hg TB
                go_simp
                refine wpAnyIn_ready (rs := [8]) (by kernel_rfl) (by simp) (AllReadyIn.cons rfl (fun K hK => ?_) AllReadyIn.nil)
                obtain ⟨ga, cpa, rfl⟩ := ownsRow_succ (by simpa using H.ra)
                have cq := H.ba.cell
                have fq := H.ba.frozen
                go_simp
                refine hK _ _ ?_
                clear hK K cq fq
                have H := H.setA (.slice (some ⟨ga, 0, none⟩) (ka.length + 1) cpa)
                refine wpAnyIn_ready (rs := [9]) (by kernel_rfl) (by simp) (AllReadyIn.cons rfl (fun K hK => ?_) AllReadyIn.nil)
                obtain ⟨gb, cpb, rfl⟩ := ownsRow_succ (by simpa using H.rb)
                have cq := H.bb.cell
                have fq := H.bb.frozen
                go_simp
                refine hK _ _ ?_
                clear hK K cq fq
                have H := H.setB (.slice (some ⟨gb, 0, none⟩) (kb.length + 1) cpb)
                refine wpAnyIn_done (by kernel_rfl) ?_ _
                exact ⟨rfl, _, _, _, _, rfl, H⟩
          · have cq := H.bb.cell
            go_simp
            refine hK _ _ ?_
            clear hK K cq
            refine wpAnyIn_ready (rs := [3]) (by kernel_rfl) (by simp) (AllReadyIn.cons rfl (fun K hK => ?_) AllReadyIn.nil)
            · refine step_appendIn (by rfl) _ _ 42 (by rfl) Try.underlying42 hi hz0 hz1 hz2 rfl (by rfl) H.ra (by rfl) TA (by rfl) lena1 lena2 H.sz ?_
              intro ua' W' hr hg
              refine hK _ _ ?_
              clear hK K
              have TB := temp_kept TB H.ra hg (by decide)
              have H := H.appA hr hg
              clear hr hg TA
              go_simp
              refine wpAnyIn_ready (rs := [7]) (by kernel_rfl) (by simp) (AllReadyIn.cons rfl (fun K hK => ?_) AllReadyIn.nil)
              · refine step_appendIn (by rfl) _ _ 43 (by rfl) Try.underlying43 gi gz0 gz1 gz2 rfl (by rfl) H.rb (by rfl) TB (by rfl) lenb1 lenb2 H.sz ?_
                intro ub' W' hr hg
                refine hK _ _ ?_
                clear hK K
                have H := H.appB hr hg
                clear hr hg TB
                go_simp
                refine wpAnyIn_ready (rs := [8]) (by kernel_rfl) (by simp) (AllReadyIn.cons rfl (fun K hK => ?_) AllReadyIn.nil)
                obtain ⟨ga, cpa, rfl⟩ := ownsRow_succ (by simpa using H.ra)
                have cq := H.ba.cell
                have fq := H.ba.frozen
                go_simp
                refine hK _ _ ?_
                clear hK K cq fq
                have H := H.setA (.slice (some ⟨ga, 0, none⟩) (ka.length + 1) cpa)
                refine wpAnyIn_ready (rs := [9]) (by kernel_rfl) (by simp) (AllReadyIn.cons rfl (fun K hK => ?_) AllReadyIn.nil)
                obtain ⟨gb, cpb, rfl⟩ := ownsRow_succ (by simpa using H.rb)
                have cq := H.bb.cell
                have fq := H.bb.frozen
                go_simp
                refine hK _ _ ?_
                clear hK K cq fq
                have H := H.setB (.slice (some ⟨gb, 0, none⟩) (kb.length + 1) cpb)
                refine wpAnyIn_done (by kernel_rfl) ?_ _
                exact ⟨rfl, _, _, _, _, rfl, H⟩
        · have cq := H.bb.cell
          go_simp
          refine hK _ _ ?_
          clear hK K cq
          refine wpAnyIn_ready (rs := [0]) (by kernel_rfl) (by simp) (AllReadyIn.cons rfl (fun K hK => ?_) AllReadyIn.nil)
          · have cq := H.ba.cell
            go_simp
            refine hK _ _ ?_
            clear hK K cq
            refine wpAnyIn_ready (rs := [3]) (by kernel_rfl) (by simp) (AllReadyIn.cons rfl (fun K hK => ?_) AllReadyIn.nil)
            · refine step_appendIn (by rfl) _ _ 42 (by rfl) Try.underlying42 hi hz0 hz1 hz2 rfl (by rfl) H.ra (by rfl) TA (by rfl) lena1 lena2 H.sz ?_
              intro ua' W' hr hg
              refine hK _ _ ?_
              clear hK K
              have TB := temp_kept TB H.ra hg (by decide)
              have H := H.appA hr hg
              clear hr hg TA
              go_simp
              refine wpAnyIn_ready (rs := [7]) (by kernel_rfl) (by simp) (AllReadyIn.cons rfl (fun K hK => ?_) AllReadyIn.nil)
              · refine step_appendIn (by rfl) _ _ 43 (by rfl) Try.underlying43 gi gz0 gz1 gz2 rfl (by rfl) H.rb (by rfl) TB (by rfl) lenb1 lenb2 H.sz ?_
                intro ub' W' hr hg
                refine hK _ _ ?_
                clear hK K
                have H := H.appB hr hg
                clear hr hg TB
                go_simp
                refine wpAnyIn_ready (rs := [8]) (by kernel_rfl) (by simp) (AllReadyIn.cons rfl (fun K hK => ?_) AllReadyIn.nil)
                obtain ⟨ga, cpa, rfl⟩ := ownsRow_succ (by simpa using H.ra)
                have cq := H.ba.cell
                have fq := H.ba.frozen
                go_simp
                refine hK _ _ ?_
                clear hK K cq fq
                have H := H.setA (.slice (some ⟨ga, 0, none⟩) (ka.length + 1) cpa)
                refine wpAnyIn_ready (rs := [9]) (by kernel_rfl) (by simp) (AllReadyIn.cons rfl (fun K hK => ?_) AllReadyIn.nil)
                obtain ⟨gb, cpb, rfl⟩ := ownsRow_succ (by simpa using H.rb)
                have cq := H.bb.cell
                have fq := H.bb.frozen
                go_simp
                refine hK _ _ ?_
                clear hK K cq fq
                have H := H.setB (.slice (some ⟨gb, 0, none⟩) (kb.length + 1) cpb)
                refine wpAnyIn_done (by kernel_rfl) ?_ _
                exact ⟨rfl, _, _, _, _, rfl, H⟩
      · have cq := H.bb.cell
        go_simp
        refine hK _ _ ?_
        clear hK K cq
        refine wpAnyIn_ready (rs := [0, 2]) (by kernel_rfl) (by simp) (AllReadyIn.cons rfl (fun K hK => ?_) (AllReadyIn.cons rfl (fun K hK => ?_) AllReadyIn.nil))
        · have cq := H.ba.cell
          go_simp
          refine hK _ _ ?_
          clear hK K cq
          refine wpAnyIn_ready (rs := [2]) (by kernel_rfl) (by simp) (AllReadyIn.cons rfl (fun K hK => ?_) AllReadyIn.nil)
          · go_simp
            refine hK _ _ ?_
            clear hK K
            obtain ⟨H, TA⟩ := H.temp 3 (.int .i64 kn)
            try simp only [World.size_alloc] at TA
            have TB := TB.alloc (.cells #[(.int .i64 kn)] 3)
            refine wpAnyIn_ready (rs := [3]) (by kernel_rfl) (by simp) (AllReadyIn.cons rfl (fun K hK => ?_) AllReadyIn.nil)
            · refine step_appendIn (by rfl) _ _ 42 (by rfl) Try.underlying42 hi hz0 hz1 hz2 rfl (by rfl) H.ra (by rfl) TA (by rfl) lena1 lena2 H.sz ?_
              intro ua' W' hr hg
              refine hK _ _ ?_
              clear hK K
              have TB := temp_kept TB H.ra hg (by decide)
              have H := H.appA hr hg
              clear hr hg TA
              go_simp
              refine wpAnyIn_ready (rs := [7]) (by kernel_rfl) (by simp) (AllReadyIn.cons rfl (fun K hK => ?_) AllReadyIn.nil)
              · refine step_appendIn (by rfl) _ _ 43 (by rfl) Try.underlying43 gi gz0 gz1 gz2 rfl (by rfl) H.rb (by rfl) TB (by rfl) lenb1 lenb2 H.sz ?_
                intro ub' W' hr hg
                refine hK _ _ ?_
                clear hK K
                have H := H.appB hr hg
                clear hr hg TB
                go_simp
                refine wpAnyIn_ready (rs := [8]) (by kernel_rfl) (by simp) (AllReadyIn.cons rfl (fun K hK => ?_) AllReadyIn.nil)
                obtain ⟨ga, cpa, rfl⟩ := ownsRow_succ (by simpa using H.ra)
                have cq := H.ba.cell
                have fq := H.ba.frozen
                go_simp
                refine hK _ _ ?_
                clear hK K cq fq
                have H := H.setA (.slice (some ⟨ga, 0, none⟩) (ka.length + 1) cpa)
                refine wpAnyIn_ready (rs := [9]) (by kernel_rfl) (by simp) (AllReadyIn.cons rfl (fun K hK => ?_) AllReadyIn.nil)
                obtain ⟨gb, cpb, rfl⟩ := ownsRow_succ (by simpa using H.rb)
                have cq := H.bb.cell
                have fq := H.bb.frozen
                go_simp
                refine hK _ _ ?_
                clear hK K cq fq
                have H := H.setB (.slice (some ⟨gb, 0, none⟩) (kb.length + 1) cpb)
                refine wpAnyIn_done (by kernel_rfl) ?_ _
                exact ⟨rfl, _, _, _, _, rfl, H⟩
        · go_simp
          refine hK _ _ ?_
          clear hK K
          obtain ⟨H, TA⟩ := H.temp 3 (.int .i64 kn)
          try simp only [World.size_alloc] at TA
          have TB := TB.alloc (.cells #[(.int .i64 kn)] 3)
          refine wpAnyIn_ready (rs := [0]) (by kernel_rfl) (by simp) (AllReadyIn.cons rfl (fun K hK => ?_) AllReadyIn.nil)
          · have cq := H.ba.cell
            go_simp
            refine hK _ _ ?_
            clear hK K cq
            refine wpAnyIn_ready (rs := [3]) (by kernel_rfl) (by simp) (AllReadyIn.cons rfl (fun K hK => ?_) AllReadyIn.nil)
            · refine step_appendIn (by rfl) _ _ 42 (by rfl) Try.underlying42 hi hz0 hz1 hz2 rfl (by rfl) H.ra (by rfl) TA (by rfl) lena1 lena2 H.sz ?_
              intro ua' W' hr hg
              refine hK _ _ ?_
              clear hK K
              have TB := temp_kept TB H.ra hg (by decide)
              have H := H.appA hr hg
              clear hr hg TA
              go_simp
              refine wpAnyIn_ready (rs := [7]) (by kernel_rfl) (by simp) (AllReadyIn.cons rfl (fun K hK => ?_) AllReadyIn.nil)
              · refine step_appendIn (by rfl) _ _ 43 (by rfl) Try.underlying43 gi gz0 gz1 gz2 rfl (by rfl) H.rb (by rfl) TB (by rfl) lenb1 lenb2 H.sz ?_
                intro ub' W' hr hg
                refine hK _ _ ?_
                clear hK K
                have H := H.appB hr hg
                clear hr hg TB
                go_simp
                refine wpAnyIn_ready (rs := [8]) (by kernel_rfl) (by simp) (AllReadyIn.cons rfl (fun K hK => ?_) AllReadyIn.nil)
                obtain ⟨ga, cpa, rfl⟩ := ownsRow_succ (by simpa using H.ra)
                have cq := H.ba.cell
                have fq := H.ba.frozen
                go_simp
                refine hK _ _ ?_
                clear hK K cq fq
                have H := H.setA (.slice (some ⟨ga, 0, none⟩) (ka.length + 1) cpa)
                refine wpAnyIn_ready (rs := [9]) (by kernel_rfl) (by simp) (AllReadyIn.cons rfl (fun K hK => ?_) AllReadyIn.nil)
                obtain ⟨gb, cpb, rfl⟩ := ownsRow_succ (by simpa using H.rb)
                have cq := H.bb.cell
                have fq := H.bb.frozen
                go_simp
                refine hK _ _ ?_
                clear hK K cq fq
                have H := H.setB (.slice (some ⟨gb, 0, none⟩) (kb.length + 1) cpb)
                refine wpAnyIn_done (by kernel_rfl) ?_ _
                exact ⟨rfl, _, _, _, _, rfl, H⟩
    -- REGION END
    rintro a1 W1 ⟨ta, tb, ua, ub, rfl, H1⟩
    obtain ⟨hB, ht, hka, hkb, hla, hlb⟩ := HH.out
    obtain ⟨ga, cpa, rfl⟩ := ownsRow_succ (by simpa using H1.ra)
    have ca := H1.ba.cell
    have cn := H1.bn.cell
    have HH1 := Lib.hid H1
    have H3 := Lib.hid (And.intro ht (And.intro hka (And.intro hkb (And.intro hla (And.intro hlb hB)))))
    rw [hla] at ca
    clear H1 H HH hB ht hka hkb hla hlb
    gi_wp2
    all_goals
      obtain ⟨ht, hka, hkb, hla, hlb, hB⟩ := H3.out
      have H4 := HH1.out
      have e1 : (pre ++ [((.int .i64 kn : Value), str xl)]).map (fun p : Value × Value => p.1) = ka ++ [(.int .i64 kn : Value)] := by rw [hka]; simp
      have e2 : (pre ++ [((.int .i64 kn : Value), str xl)]).map (fun p : Value × Value => p.2) = kb ++ [str xl] := by rw [hkb]; simp
    · have hq : ((pre.length : Int) + 1 == (N : Int)) = true := by first | assumption | fail
      have hq' : pre.length + 1 = N := by have := eq_of_beq hq; omega
      exact ⟨H4.kt.more (by simp), ⟨⟨_, H4.ba, by rw [e1]; exact H4.ra⟩, ⟨_, H4.bb, by rw [e2]; exact H4.rb⟩, H4.bn, hB.trans H4.bl⟩, rfl, by simp; omega⟩
    · have hq : ((pre.length : Int) + 1 == (N : Int)) = false := by first | assumption | (simp at *; omega) | fail
      have hq' : pre.length + 1 ≠ N := by intro e; rw [← e] at hq; simp at hq
      exact ⟨H4.kt.more (by simp), ⟨⟨_, H4.ba, by rw [e1]; exact H4.ra⟩, ⟨_, H4.bb, by rw [e2]; exact H4.rb⟩, H4.bn, hB.trans H4.bl⟩, by simp; omega⟩
  case done =>
    rintro D W hD ⟨⟨⟨va, hva, hra⟩, ⟨vb, hvb, hrb⟩, hn, hB⟩, hlt⟩ hK
    have ca := hva.cell
    have cb := hvb.cell
    have hm : Try.prog.follows .mixedOrders = true := by kernel_rfl
    have e : xs.take ((N : Int).toNat) = xs := List.take_of_length_le (by simp; omega)
    gi_wp2
    gi_region_o
    gi_wp2
    refine ⟨by simp, .inl ⟨_, _, rfl, run_takeDeferred (show W.drew.heap[D]? = _ from hK), ?_⟩⟩
    have hl : xs.length = (xs.map (·.1)).length := by simp
    have hl2 : xs.length = (xs.map (·.2)).length := by simp
    have hK' : W.drew.heap[D]? = some (.deferred (some [])) := hK
    have hra' : W.drew.ownsRow (w.heap.size + 3) 3 1 va _ _ := hra
    have hrb' : W.drew.ownsRow (w.heap.size + 3) 9 1 vb _ _ := hrb
    refine ⟨_, results_tmp2 rfl _ _ _, va, vb, rfl, ?_, ?_, (hB.trans (Below.drewsN (Below.refl _ W) 1)).trans (belowK_b (w := w) (Nat.le_refl _) W.drew D _ _ (by simp at hD; omega) hK' rfl rfl)⟩
    · rw [e, hl]; exact row_mono (ownsRow_putObj hra' _ hK' rfl) (by omega)
    · rw [e, hl2]; exact row_mono (ownsRow_putObj hrb' _ hK' rfl) (by omega)
  case stop =>
    rintro D c pre W hD ⟨t, ht⟩ ⟨⟨⟨va, hva, hra⟩, ⟨vb, hvb, hrb⟩, hn, hB⟩, rfl, hlen⟩ hK
    have ca := hva.cell
    have cb := hvb.cell
    have hm : Try.prog.follows .mixedOrders = true := by kernel_rfl
    have e : xs.take ((N : Int).toNat) = pre := by rw [ht]; simp [← hlen]
    gi_wp2
    gi_region_o
    gi_wp2
    refine ⟨by simp, .inl ⟨_, _, rfl, run_takeDeferred (show W.drew.heap[D]? = _ from hK), ?_⟩⟩
    have hl : pre.length = (pre.map (·.1)).length := by simp
    have hl2 : pre.length = (pre.map (·.2)).length := by simp
    have hK' : W.drew.heap[D]? = some (.deferred (some [])) := hK
    have hra' : W.drew.ownsRow (w.heap.size + 3) 3 1 va _ _ := hra
    have hrb' : W.drew.ownsRow (w.heap.size + 3) 9 1 vb _ _ := hrb
    refine ⟨_, results_tmp2 rfl _ _ _, va, vb, rfl, ?_, ?_, (hB.trans (Below.drewsN (Below.refl _ W) 1)).trans (belowK_b (w := w) (Nat.le_refl _) W.drew D _ _ (by simp at hD; omega) hK' rfl rfl)⟩
    · rw [e, hl]; exact row_mono (ownsRow_putObj hra' _ hK' rfl) (by omega)
    · rw [e, hl2]; exact row_mono (ownsRow_putObj hrb' _ hK' rfl) (by omega)
theorem pairs_any {Ok : World → Prop} {gf : Nat} {lb : Array Value} {xs : List (Value × Value)} {w : World} (n : Int) (h1 : 1 ≤ n) (hx : xs.length ≤ 1099511627776) (hk : ∀ p ∈ xs, KSIS p.1 ∧ VSIS p.2)
    (eg : ∀ args w, (callFunc gf args).run Try.prog w = .ok (.enter gf args) w) (hOk : ∀ W, Below w.heap.size w W → Ok W)
    (hs : ∀ W', Below w.heap.size w W' → Seqs Try.prog gf lb (fun p : Value × Value => #[p.1, p.2]) Ok (fun T => T = 3 ∨ T = 9) xs W') :
    Calls Try.prog 20 #[.func (.func gf) #[] lb, .int .i64 n] w (PairsP w (xs.take n.toNat)) :=
  pairsW_any n h1 hx hk eg hOk (fun W' h => (hs W' h).toW)
end Go.Proofs.Ytdkplhfbcpobaaa
