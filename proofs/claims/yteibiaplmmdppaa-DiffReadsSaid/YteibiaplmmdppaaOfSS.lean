/- diff.Of[string]: what it hands on. -/
import Derived.Test.YteibiaplmmdppaaOfMSS
import Derived.TacticsInMore
import Derived.OwnWalkIn
namespace Go.Proofs.Yteibiaplmmdppaa
open Go.RowKit
attribute [local go_sem] Oper.semAt_some wide_fn wide_depth

theorem getT_vsSS {K V : Value → Prop} {k x : Value} : ∀ {t : Tr}, WS K V t → getT k t = some x → V x
  | .nil, _, h => by simp [getT] at h
  | .node l k' x' n r, hw, h => by
    obtain ⟨_, a1, a2, a3, a4⟩ := hw
    unfold getT at h
    split at h
    · exact getT_vsSS a3 h
    · split at h
      · exact getT_vsSS a4 h
      · cases h; exact a2
theorem chgs_oneSS (ta tb : Tr) (p : Value × Value) : chgsSS ta tb [p] = (chgFSS ta tb p.1).toList := by
  unfold chgsSS
  cases h : chgFSS ta tb p.1 <;> simp [h]
/-- Ahead of the range. -/
def OfMidSS (Wr : TypeId → Prop) (J : List Value → World → Prop) (l : Nat) (ta tb : Tr) (w W W9 : World) (Bk : Nat) : Prop :=
  J [] W9 ∧ Boxed W9 W.heap.size 65 (.func (.yield l) #[] #[]) ∧ Below W.heap.size W W9 ∧ W.heap.size < W9.heap.size ∧
    ∀ W', Below W9.heap.size W9 W' → SeqsW MrgTSS Try.prog 46 #[.pointer (some ⟨Bk, 0, none⟩)] (fun p : Value × Value => #[p.1]) (NK w) Wr (mrgL (prs ta) (prs tb)) W'
theorem of_midSS {Wr : TypeId → Prop} {J : List Value → World → Prop} {l : Nat} {w W w6 : World} {b1 b2 Ba Bb : Nat} {ta tb : Tr} (h : OfPSS w b1 b2 ta tb) (hJ : OwnFromT MrgTSS W.heap.size J) (hj : J [] w6) (hy : Boxed w6 W.heap.size 65 (.func (.yield l) #[] #[]))
    (hw : Below w.heap.size w W) (hW : Below W.heap.size W w6) (ha : w6.cell? ⟨Ba, 0, none⟩ = some (.pointer (some ⟨b1, 0, none⟩))) (hb : w6.cell? ⟨Bb, 0, none⟩ = some (.pointer (some ⟨b2, 0, none⟩)))
    (w1 : ¬ Wr 92) (w2 : ¬ Wr 95) (w3 : ¬ Wr 63) (w4 : ¬ Wr 75) :
    OfMidSS Wr J l ta tb w W (((w6.alloc (.cells #[.func (.func 51) #[] #[.pointer (some ⟨Ba, 0, none⟩)]] 70)).alloc (.cells #[.func (.func 51) #[] #[.pointer (some ⟨Bb, 0, none⟩)]] 70)).alloc (.cells #[.func (.func 48) #[] #[.pointer (some ⟨w6.heap.size, 0, none⟩), .pointer (some ⟨w6.heap.size + 1, 0, none⟩)]] 70)) (w6.heap.size + 2) := by
  have hlt : W.heap.size < w6.heap.size := (Array.getElem?_eq_some_iff.1 (show w6.heap[W.heap.size]? = _ from hy)).1
  exact ⟨hJ.plain.alloc _ (hJ.plain.alloc _ (hJ.plain.alloc _ hj)), ((hy.alloc _).alloc _).alloc _, ((hW.alloc hW.size _).alloc (by simp; omega) _).alloc (by simp; omega) _, by simp; omega, of_readySS h (hw.trans (hW.mono hw.size)) ha hb w1 w2 w3 w4 _ rfl⟩
theorem of_m1SS {Wr : TypeId → Prop} {J : List Value → World → Prop} {l : Nat} {w W W1 : World} {b1 b2 : Nat} {ta tb : Tr} (h : OfPSS w b1 b2 ta tb) (hJ : OwnFromT MrgTSS W.heap.size J) (hj1 : J [] W1) (hy1 : Boxed W1 W.heap.size 65 (.func (.yield l) #[] #[]))
    (hW : Below w.heap.size w W) (hbW1 : Below W.heap.size W W1) (w1 : ¬ Wr 92) (w2 : ¬ Wr 95) (w3 : ¬ Wr 63) (w4 : ¬ Wr 75) : ∀ W9 Bk, W9 = (((((W1.alloc (.cells #[.pointer (some ⟨b1, 0, none⟩)] 25)).alloc (.cells #[.pointer (some ⟨b2, 0, none⟩)] 25)).alloc (.cells #[.func (.func 51) #[] #[.pointer (some ⟨W1.heap.size, 0, none⟩)]] 70)).alloc (.cells #[.func (.func 51) #[] #[.pointer (some ⟨W1.heap.size + 1, 0, none⟩)]] 70)).alloc (.cells #[.func (.func 48) #[] #[.pointer (some ⟨W1.heap.size + 2, 0, none⟩), .pointer (some ⟨W1.heap.size + 3, 0, none⟩)]] 70)) → Bk = W1.heap.size + 4 → OfMidSS Wr J l ta tb w W W9 Bk := by
  have := (of_midSS (Wr := Wr) (w6 := (W1.alloc (.cells #[.pointer (some ⟨b1, 0, none⟩)] 25)).alloc (.cells #[.pointer (some ⟨b2, 0, none⟩)] 25)) (Ba := W1.heap.size) (Bb := W1.heap.size + 1) h hJ (hJ.plain.alloc _ (hJ.plain.alloc _ hj1)) ((hy1.alloc _).alloc _) hW ((hbW1.alloc hbW1.size _).alloc (by simp; have := hbW1.size; omega) _)
    ((Boxed.new W1 _ _).alloc _).cell (by have := (Boxed.new (W1.alloc (.cells #[.pointer (some ⟨b1, 0, none⟩)] 25)) 25 (.pointer (some ⟨b2, 0, none⟩))).cell; rw [World.size_alloc] at this; exact this) w1 w2 w3 w4)
  simp only [World.size_alloc, Nat.add_assoc, Nat.reduceAdd] at this
  rintro _ _ rfl rfl
  exact this
theorem of_m2SS {Wr : TypeId → Prop} {J : List Value → World → Prop} {l : Nat} {w W W1 : World} {b1 b2 : Nat} {ta tb : Tr} (h : OfPSS w b1 b2 ta tb) (hJ : OwnFromT MrgTSS W.heap.size J) (hj1 : J [] W1) (hy1 : Boxed W1 W.heap.size 65 (.func (.yield l) #[] #[]))
    (hW : Below w.heap.size w W) (hbW1 : Below W.heap.size W W1) (w1 : ¬ Wr 92) (w2 : ¬ Wr 95) (w3 : ¬ Wr 63) (w4 : ¬ Wr 75) : ∀ W9 Bk, W9 = (((((W1.alloc (.cells #[.pointer (some ⟨b2, 0, none⟩)] 25)).alloc (.cells #[.pointer (some ⟨b1, 0, none⟩)] 25)).alloc (.cells #[.func (.func 51) #[] #[.pointer (some ⟨W1.heap.size + 1, 0, none⟩)]] 70)).alloc (.cells #[.func (.func 51) #[] #[.pointer (some ⟨W1.heap.size, 0, none⟩)]] 70)).alloc (.cells #[.func (.func 48) #[] #[.pointer (some ⟨W1.heap.size + 2, 0, none⟩), .pointer (some ⟨W1.heap.size + 3, 0, none⟩)]] 70)) → Bk = W1.heap.size + 4 → OfMidSS Wr J l ta tb w W W9 Bk := by
  have := (of_midSS (Wr := Wr) (w6 := (W1.alloc (.cells #[.pointer (some ⟨b2, 0, none⟩)] 25)).alloc (.cells #[.pointer (some ⟨b1, 0, none⟩)] 25)) (Ba := W1.heap.size + 1) (Bb := W1.heap.size) h hJ (hJ.plain.alloc _ (hJ.plain.alloc _ hj1)) ((hy1.alloc _).alloc _) hW ((hbW1.alloc hbW1.size _).alloc (by simp; have := hbW1.size; omega) _)
    (by have := (Boxed.new (W1.alloc (.cells #[.pointer (some ⟨b2, 0, none⟩)] 25)) 25 (.pointer (some ⟨b1, 0, none⟩))).cell; rw [World.size_alloc] at this; exact this) ((Boxed.new W1 _ _).alloc _).cell w1 w2 w3 w4)
  simp only [World.size_alloc, Nat.add_assoc, Nat.reduceAdd] at this
  rintro _ _ rfl rfl
  exact this
/-- What a range over changes asks of the world between two rounds. -/
structure OfOkSS (w : World) (b1 b2 ba bb : Nat) (ta tb : Tr) (X : World) : Prop where
  nk : NK w X
  ca : X.cell? ⟨ba, 0, none⟩ = some (.pointer (some ⟨b1, 0, none⟩))
  cb : X.cell? ⟨bb, 0, none⟩ = some (.pointer (some ⟨b2, 0, none⟩))
  ma : MP X b1 ta
  mb : MP X b2 tb
set_option maxRecDepth 100000 in
set_option maxHeartbeats 8000000 in
theorem of1SS_seqs' {Wr : TypeId → Prop} {w W : World} {b1 b2 ba bb : Nat} {ta tb : Tr} (h : OfPSS w b1 b2 ta tb) (hca : w.cell? ⟨ba, 0, none⟩ = some (.pointer (some ⟨b1, 0, none⟩))) (hcb : w.cell? ⟨bb, 0, none⟩ = some (.pointer (some ⟨b2, 0, none⟩))) (hW : Below w.heap.size w W)
    {Ok : World → Prop} (hk : ∀ X, Ok X → OfOkSS w b1 b2 ba bb ta tb X)
    (w1 : ¬ Wr 92) (w2 : ¬ Wr 95) (w3 : ¬ Wr 63) (w4 : ¬ Wr 75) (w5 : ¬ Wr 65) :
    SeqsW MrgTSS Try.prog 33 #[.pointer (some ⟨ba, 0, none⟩), .pointer (some ⟨bb, 0, none⟩)] (fun c : Value => #[c]) Ok Wr (chgLSS ta tb) W := by
  intro l J Jx hJ hJx hOk hY h0
  have hm : Try.prog.follows .mixedOrders = true := by kernel_rfl
  have hdd : ∀ k : Nat, (Fence.wide.depth.isSome = true → 1 ≤ k) := fun k h => by cases h
  have bY := Boxed.new W 65 (.func (.yield l) #[] #[])
  have hB1 := below_alloc W (.cells #[.func (.yield l) #[] #[]] 65)
  obtain ⟨W1, hW1⟩ : ∃ W1, W1 = (W.alloc (.cells #[.func (.yield l) #[] #[]] 65)).drew := ⟨_, rfl⟩
  have hj1 : J [] W1 := by rw [hW1]; exact own_drew hJ.plain (hJ.plain.alloc _ h0)
  have hy1 : Boxed W1 W.heap.size 65 (.func (.yield l) #[] #[]) := by rw [hW1]; exact bY
  have hbW1 : Below W.heap.size W W1 := by rw [hW1]; exact Below.drewsN hB1 1
  have hw1 : Below w.heap.size w W1 := hW.trans (hbW1.mono hW.size)
  have ca : W1.cell? ⟨ba, 0, none⟩ = some (.pointer (some ⟨b1, 0, none⟩)) := (hw1.cell (p := ⟨ba, 0, none⟩) (World.block_lt_of_cell? w _ hca)).trans hca
  have cb : W1.cell? ⟨bb, 0, none⟩ = some (.pointer (some ⟨b2, 0, none⟩)) := (hw1.cell (p := ⟨bb, 0, none⟩) (World.block_lt_of_cell? w _ hcb)).trans hcb
  have HW1 := Lib.hid hW1
  have ca0 : (W.alloc (.cells #[.func (.yield l) #[] #[]] 65)).cell? ⟨ba, 0, none⟩ = some (.pointer (some ⟨b1, 0, none⟩)) := by rw [hW1] at ca; exact ca
  have cb0 : (W.alloc (.cells #[.func (.yield l) #[] #[]] 65)).cell? ⟨bb, 0, none⟩ = some (.pointer (some ⟨b2, 0, none⟩)) := by rw [hW1] at cb; exact cb
  have cbA : (W1.alloc (.cells #[.pointer (some ⟨b1, 0, none⟩)] 25)).cell? ⟨bb, 0, none⟩ = some (.pointer (some ⟨b2, 0, none⟩)) := ((below_alloc W1 _).cell (p := ⟨bb, 0, none⟩) (World.block_lt_of_cell? W1 _ cb)).trans cb
  clear hW1 h0 bY hB1 hw1 hca hcb
  refine (callsIn_wide (n := 9)).1 ?_
  refine callsIn_of_wp_marks Try.func33 rfl trivial ?_ rfl
  simp only [Try.ntmps33, List.size_toArray, List.length_cons, List.length_nil, Nat.reduceAdd, Nat.reduceSub, Array.replicate_succ, Array.replicate_zero, List.push_toArray, List.append_toArray, List.nil_append, List.cons_append]
  gi_wp2_with fail
  refine cut_region (fun a W9 => Kept (∃ q9 q10 q11 q12 q13 Bk, a = { tmps := #[.func (.yield l) #[] #[], .pointer (some ⟨ba, 0, none⟩), .pointer (some ⟨bb, 0, none⟩), .pointer (some ⟨W.heap.size, 0, none⟩), undef, undef, undef, undef, undef, q9, q10, q11, q12, q13, .func (.func 46) #[] #[.pointer (some ⟨Bk, 0, none⟩)], undef, undef, undef, undef, undef, undef, undef, undef, undef, undef, undef, undef, undef, undef, undef, undef, undef, undef, undef, undef, undef, undef, undef, undef, undef, undef, undef, undef, undef, undef], defers := [] } ∧ OfMidSS Wr J l ta tb w W W9 Bk)) ?_ ?_
  · clear ca0 cb0
    refine wpIn_region_any hm ?_
    change wpAnyIn _ _ _ _ _ _ _ _ _ (World.drew _)
    rw [← HW1.out]
    refine wpAnyIn_ready (rs := [0, 2]) (by kernel_rfl) (by simp) (AllReadyIn.cons rfl (fun K hK => ?_) (AllReadyIn.cons rfl (fun K hK => ?_) AllReadyIn.nil))
    · go_simp
      refine hK _ _ ?_
      clear hK K
      refine wpAnyIn_ready (rs := [1, 2]) (by kernel_rfl) (by simp) (AllReadyIn.cons rfl (fun K hK => ?_) (AllReadyIn.cons rfl (fun K hK => ?_) AllReadyIn.nil))
      · go_simp
        first | refine ⟨trivial, hdd _, (callsIn_wide.2 (mallSS_any b1 _)).mono ?_⟩ | refine ⟨hdd _, (callsIn_wide.2 (mallSS_any b1 _)).mono ?_⟩ | refine (callsIn_wide.2 (mallSS_any b1 _)).mono ?_ | refine ⟨trivial, (callsIn_wide.2 (mallSS_any b1 _)).mono ?_⟩
        rintro e w' ⟨rfl, rfl⟩
        refine hK _ _ ?_
        clear hK K
        refine wpAnyIn_ready (rs := [2]) (by kernel_rfl) (by simp) (AllReadyIn.cons rfl (fun K hK => ?_) AllReadyIn.nil)
        go_simp
        refine hK _ _ ?_
        clear hK K
        refine wpAnyIn_ready (rs := [3]) (by kernel_rfl) (by simp) (AllReadyIn.cons rfl (fun K hK => ?_) AllReadyIn.nil)
        go_simp
        first | refine ⟨trivial, hdd _, (callsIn_wide.2 (mallSS_any b2 _)).mono ?_⟩ | refine ⟨hdd _, (callsIn_wide.2 (mallSS_any b2 _)).mono ?_⟩ | refine (callsIn_wide.2 (mallSS_any b2 _)).mono ?_ | refine ⟨trivial, (callsIn_wide.2 (mallSS_any b2 _)).mono ?_⟩
        rintro e w' ⟨rfl, rfl⟩
        refine hK _ _ ?_
        clear hK K
        refine wpAnyIn_ready (rs := [4]) (by kernel_rfl) (by simp) (AllReadyIn.cons rfl (fun K hK => ?_) AllReadyIn.nil)
        go_simp
        first | refine ⟨trivial, hdd _, (callsIn_wide.2 (merge_anySS (.inr ⟨_, _, rfl⟩) _ _ _)).mono ?_⟩ | refine ⟨hdd _, (callsIn_wide.2 (merge_anySS (.inr ⟨_, _, rfl⟩) _ _ _)).mono ?_⟩ | refine (callsIn_wide.2 (merge_anySS (.inr ⟨_, _, rfl⟩) _ _ _)).mono ?_ | refine ⟨trivial, (callsIn_wide.2 (merge_anySS (.inr ⟨_, _, rfl⟩) _ _ _)).mono ?_⟩
        rintro e w' ⟨rfl, rfl⟩
        refine hK _ _ ?_
        clear hK K
        refine wpAnyIn_ready (rs := [5]) (by kernel_rfl) (by simp) (AllReadyIn.cons rfl (fun K hK => ?_) AllReadyIn.nil)
        go_simp
        first | refine ⟨trivial, hdd _, (callsIn_wide.2 (keysSS_any _ _ _)).mono ?_⟩ | refine ⟨hdd _, (callsIn_wide.2 (keysSS_any _ _ _)).mono ?_⟩ | refine (callsIn_wide.2 (keysSS_any _ _ _)).mono ?_ | refine ⟨trivial, (callsIn_wide.2 (keysSS_any _ _ _)).mono ?_⟩
        rintro e w' ⟨rfl, rfl⟩
        refine hK _ _ ?_
        clear hK K
        refine wpAnyIn_done (by kernel_rfl) ?_ _
        exact ⟨rfl, Kept.intro ⟨_, _, _, _, _, _, rfl, of_m1SS h hJ hj1 hy1 hW hbW1 w1 w2 w3 w4 _ _ (by first | rfl | simp) (by first | rfl | simp)⟩⟩
      · go_simp
        refine hK _ _ ?_
        clear hK K
        refine wpAnyIn_ready (rs := [1]) (by kernel_rfl) (by simp) (AllReadyIn.cons rfl (fun K hK => ?_) AllReadyIn.nil)
        go_simp
        first | refine ⟨trivial, hdd _, (callsIn_wide.2 (mallSS_any b1 _)).mono ?_⟩ | refine ⟨hdd _, (callsIn_wide.2 (mallSS_any b1 _)).mono ?_⟩ | refine (callsIn_wide.2 (mallSS_any b1 _)).mono ?_ | refine ⟨trivial, (callsIn_wide.2 (mallSS_any b1 _)).mono ?_⟩
        rintro e w' ⟨rfl, rfl⟩
        refine hK _ _ ?_
        clear hK K
        refine wpAnyIn_ready (rs := [3]) (by kernel_rfl) (by simp) (AllReadyIn.cons rfl (fun K hK => ?_) AllReadyIn.nil)
        go_simp
        first | refine ⟨trivial, hdd _, (callsIn_wide.2 (mallSS_any b2 _)).mono ?_⟩ | refine ⟨hdd _, (callsIn_wide.2 (mallSS_any b2 _)).mono ?_⟩ | refine (callsIn_wide.2 (mallSS_any b2 _)).mono ?_ | refine ⟨trivial, (callsIn_wide.2 (mallSS_any b2 _)).mono ?_⟩
        rintro e w' ⟨rfl, rfl⟩
        refine hK _ _ ?_
        clear hK K
        refine wpAnyIn_ready (rs := [4]) (by kernel_rfl) (by simp) (AllReadyIn.cons rfl (fun K hK => ?_) AllReadyIn.nil)
        go_simp
        first | refine ⟨trivial, hdd _, (callsIn_wide.2 (merge_anySS (.inr ⟨_, _, rfl⟩) _ _ _)).mono ?_⟩ | refine ⟨hdd _, (callsIn_wide.2 (merge_anySS (.inr ⟨_, _, rfl⟩) _ _ _)).mono ?_⟩ | refine (callsIn_wide.2 (merge_anySS (.inr ⟨_, _, rfl⟩) _ _ _)).mono ?_ | refine ⟨trivial, (callsIn_wide.2 (merge_anySS (.inr ⟨_, _, rfl⟩) _ _ _)).mono ?_⟩
        rintro e w' ⟨rfl, rfl⟩
        refine hK _ _ ?_
        clear hK K
        refine wpAnyIn_ready (rs := [5]) (by kernel_rfl) (by simp) (AllReadyIn.cons rfl (fun K hK => ?_) AllReadyIn.nil)
        go_simp
        first | refine ⟨trivial, hdd _, (callsIn_wide.2 (keysSS_any _ _ _)).mono ?_⟩ | refine ⟨hdd _, (callsIn_wide.2 (keysSS_any _ _ _)).mono ?_⟩ | refine (callsIn_wide.2 (keysSS_any _ _ _)).mono ?_ | refine ⟨trivial, (callsIn_wide.2 (keysSS_any _ _ _)).mono ?_⟩
        rintro e w' ⟨rfl, rfl⟩
        refine hK _ _ ?_
        clear hK K
        refine wpAnyIn_done (by kernel_rfl) ?_ _
        exact ⟨rfl, Kept.intro ⟨_, _, _, _, _, _, rfl, of_m1SS h hJ hj1 hy1 hW hbW1 w1 w2 w3 w4 _ _ (by first | rfl | simp) (by first | rfl | simp)⟩⟩
    · go_simp
      refine hK _ _ ?_
      clear hK K
      refine wpAnyIn_ready (rs := [0]) (by kernel_rfl) (by simp) (AllReadyIn.cons rfl (fun K hK => ?_) AllReadyIn.nil)
      go_simp
      refine hK _ _ ?_
      clear hK K
      refine wpAnyIn_ready (rs := [1]) (by kernel_rfl) (by simp) (AllReadyIn.cons rfl (fun K hK => ?_) AllReadyIn.nil)
      go_simp
      first | refine ⟨trivial, hdd _, (callsIn_wide.2 (mallSS_any b1 _)).mono ?_⟩ | refine ⟨hdd _, (callsIn_wide.2 (mallSS_any b1 _)).mono ?_⟩ | refine (callsIn_wide.2 (mallSS_any b1 _)).mono ?_ | refine ⟨trivial, (callsIn_wide.2 (mallSS_any b1 _)).mono ?_⟩
      rintro e w' ⟨rfl, rfl⟩
      refine hK _ _ ?_
      clear hK K
      refine wpAnyIn_ready (rs := [3]) (by kernel_rfl) (by simp) (AllReadyIn.cons rfl (fun K hK => ?_) AllReadyIn.nil)
      go_simp
      first | refine ⟨trivial, hdd _, (callsIn_wide.2 (mallSS_any b2 _)).mono ?_⟩ | refine ⟨hdd _, (callsIn_wide.2 (mallSS_any b2 _)).mono ?_⟩ | refine (callsIn_wide.2 (mallSS_any b2 _)).mono ?_ | refine ⟨trivial, (callsIn_wide.2 (mallSS_any b2 _)).mono ?_⟩
      rintro e w' ⟨rfl, rfl⟩
      refine hK _ _ ?_
      clear hK K
      refine wpAnyIn_ready (rs := [4]) (by kernel_rfl) (by simp) (AllReadyIn.cons rfl (fun K hK => ?_) AllReadyIn.nil)
      go_simp
      first | refine ⟨trivial, hdd _, (callsIn_wide.2 (merge_anySS (.inr ⟨_, _, rfl⟩) _ _ _)).mono ?_⟩ | refine ⟨hdd _, (callsIn_wide.2 (merge_anySS (.inr ⟨_, _, rfl⟩) _ _ _)).mono ?_⟩ | refine (callsIn_wide.2 (merge_anySS (.inr ⟨_, _, rfl⟩) _ _ _)).mono ?_ | refine ⟨trivial, (callsIn_wide.2 (merge_anySS (.inr ⟨_, _, rfl⟩) _ _ _)).mono ?_⟩
      rintro e w' ⟨rfl, rfl⟩
      refine hK _ _ ?_
      clear hK K
      refine wpAnyIn_ready (rs := [5]) (by kernel_rfl) (by simp) (AllReadyIn.cons rfl (fun K hK => ?_) AllReadyIn.nil)
      go_simp
      first | refine ⟨trivial, hdd _, (callsIn_wide.2 (keysSS_any _ _ _)).mono ?_⟩ | refine ⟨hdd _, (callsIn_wide.2 (keysSS_any _ _ _)).mono ?_⟩ | refine (callsIn_wide.2 (keysSS_any _ _ _)).mono ?_ | refine ⟨trivial, (callsIn_wide.2 (keysSS_any _ _ _)).mono ?_⟩
      rintro e w' ⟨rfl, rfl⟩
      refine hK _ _ ?_
      clear hK K
      refine wpAnyIn_done (by kernel_rfl) ?_ _
      exact ⟨rfl, Kept.intro ⟨_, _, _, _, _, _, rfl, of_m1SS h hJ hj1 hy1 hW hbW1 w1 w2 w3 w4 _ _ (by first | rfl | simp) (by first | rfl | simp)⟩⟩
  · intro a1 W9 hkept
    obtain ⟨q9, q10, q11, q12, q13, Bk, rfl, hj9, hy9, hb9, hlt9, hseq⟩ := hkept.out
    clear hkept
    clear ca0 cb0 ca cb cbA HW1 hj1 hy1 hbW1
    gi_wp2_with fail
    refine range_lawW (Tw := MrgTSS) (gf := 46) (lb := #[.pointer (some ⟨Bk, 0, none⟩)]) rfl (enters_of Try.func46 (by kernel_rfl) rfl) (Wr := Wr) (xs := mrgL (prs ta) (prs tb)) (Ok := NK w) hseq (by intro x; rfl)
      (fun pre W2 => J (chgsSS ta tb pre) W2 ∧ Boxed W2 W.heap.size 65 (.func (.yield l) #[] #[]))
      (fun c pre W2 => c = .ret ∧ ∃ out, (∃ t, chgLSS ta tb = out ++ t) ∧ Jx out W2)
      (OwnFromT.and ?ownj ((boxed_ownT _ _ _ (by unfold MrgTSS; decide)).from _)) (fun c => OwnFromT.and (ownFromT_pure _ _ (fun _ => c = .ret)) ?ownx) ⟨hj9, hy9⟩ (fun pre W2 h => (hk _ (hOk _ _ h.1)).nk)
      (fun x => { tmps := #[.func (.yield l) #[] #[], .pointer (some ⟨ba, 0, none⟩), .pointer (some ⟨bb, 0, none⟩), .pointer (some ⟨W.heap.size, 0, none⟩), x.1, undef, undef, undef, undef, q9, q10, q11, q12, q13, .func (.func 46) #[] #[.pointer (some ⟨Bk, 0, none⟩)], x.1, undef, undef, undef, undef, undef, undef, undef, undef, undef, undef, undef, undef, undef, undef, undef, undef, undef, undef, undef, undef, undef, undef, undef, undef, undef, undef, undef, undef, undef], defers := [] }) ?assign ?body ?done ?stop
    case ownj =>
      rintro s X Y row hj hg hr
      exact hJ _ _ _ _ hj hg (fun r e => ⟨by have := (hr r e).1; omega, (hr r e).2⟩)
    case ownx =>
      rintro s X Y row ⟨out, ht, hj⟩ hg hr
      exact ⟨out, ht, hJx _ _ _ _ hj hg (fun r e => ⟨by have := (hr r e).1; omega, (hr r e).2⟩)⟩
    case assign =>
      intro l x W K hK
      gi_wp2
      exact hK
    case body =>
      rintro l2 pre ⟨k, y⟩ W2 _ ⟨hj, hb⟩ ⟨t, ht⟩
      have hbl := hk _ (hOk _ _ hj)
      have hkin : ∀ p ∈ mrgL (prs ta) (prs tb), KSSS p.1 ∧ VSSS p.2 := mrg_mem (fun p => KSSS p.1 ∧ VSSS p.2) _ _ (fun p hp => ws_keys h.wa p hp) (fun p hp => ws_keys h.wb p hp)
      obtain ⟨⟨kl, rfl⟩, _⟩ := hkin (k, y) (by rw [ht]; simp)
      dsimp only
      have ca2 : W2.cell? ⟨ba, 0, none⟩ = some (.pointer (some ⟨b1, 0, none⟩)) := hbl.ca
      have cb2 : W2.cell? ⟨bb, 0, none⟩ = some (.pointer (some ⟨b2, 0, none⟩)) := hbl.cb
      have cY := hb.cell
      have G1 := mgetSS_any b1 (str kl) ta W2 hbl.ma ⟨_, rfl⟩ h.wa
      have G2 := mgetSS_any b2 (str kl) tb W2 hbl.mb ⟨_, rfl⟩ h.wb
      obtain ⟨c, hc⟩ : ∃ c, c = chgFSS ta tb (str kl) := ⟨_, rfl⟩
      have hxs : chgLSS ta tb = chgsSS ta tb pre ++ (c.toList ++ chgsSS ta tb t) := by
        unfold chgLSS
        rw [ht, chgs_appSS, hc]
        congr 1
        show chgsSS ta tb ([(str kl, y)] ++ t) = _
        rw [chgs_appSS, chgs_oneSS]
      have hpre : chgsSS ta tb (pre ++ [(str kl, y)]) = chgsSS ta tb pre ++ c.toList := by
        rw [chgs_appSS, hc, chgs_oneSS]
      have v1 := fun x => getT_vsSS (k := str kl) (x := x) h.wa
      have v2 := fun x => getT_vsSS (k := str kl) (x := x) h.wb
      unfold chgFSS at hc
      obtain ⟨r1, hr1⟩ : ∃ r, r = getT (str kl) ta := ⟨_, rfl⟩
      obtain ⟨r2, hr2⟩ : ∃ r, r = getT (str kl) tb := ⟨_, rfl⟩
      rw [← hr1, ← hr2] at hc
      rw [← hr1] at G1 v1
      rw [← hr2] at G2 v2
      have C1 : Hid (∀ m, CallsIn (Fence.wide.inRound l2) m Try.prog 37 #[.pointer (some ⟨b1, 0, none⟩), str kl] W2 fun e w' => e = .returned (.tuple #[r1.getD (str []), .bool r1.isSome]) ∧ w' = W2) := Lib.hid (fun m => (callsIn_wide.2 G1).inRound l2)
      have C2 : Hid (∀ m, CallsIn (Fence.wide.inRound l2) m Try.prog 37 #[.pointer (some ⟨b2, 0, none⟩), str kl] W2 fun e w' => e = .returned (.tuple #[r2.getD (str []), .bool r2.isSome]) ∧ w' = W2) := Lib.hid (fun m => (callsIn_wide.2 G2).inRound l2)
      have HP := Lib.hid hpre
      have HX := Lib.hid hxs
      have hle : W.heap.size ≤ W9.heap.size := by omega
      clear hxs hpre hr1 hr2 G1 G2 ht hkin hseq hj9 hy9 hb9 hlt9 hbl
      rcases r1 with _ | x1
      · rcases r2 with _ | x2
        · dsimp only [Option.getD, Option.isSome] at C1 C2
          gi_wp2_with fail
          refine (C1.out _).mono ?_
          rintro e wq ⟨rfl, hwq⟩
          replace hwq := hwq.symm
          subst hwq
          gi_wp2_with fail
          refine (C2.out _).mono ?_
          rintro e wq ⟨rfl, hwq⟩
          replace hwq := hwq.symm
          subst hwq
          obtain ⟨fn, tmps, assign, body, hy, hR⟩ := hY (chgsSS ta tb pre) (chgVSS (str kl) (str []) true) W2 hj ⟨_, by rw [HX.out, hc]; rfl⟩ 6
          gi_wp2_with (refine hR.mono ?_; clear hR; rintro e W3 ⟨hk, ⟨rfl, hj4⟩ | ⟨rfl, hx4⟩⟩)
          · exact ⟨hk.more hle, by rw [HP.out, hc]; exact hj4, hk.box hb (Nat.le_refl _) w5⟩
          · exact ⟨hk.more hle, rfl, _, ⟨_, by rw [HX.out, hc, ← List.append_assoc]; rfl⟩, hx4⟩
        · obtain ⟨xl2, rfl⟩ := v2 x2 rfl
          dsimp only [Option.getD, Option.isSome] at C1 C2
          gi_wp2_with fail
          refine (C1.out _).mono ?_
          rintro e wq ⟨rfl, hwq⟩
          replace hwq := hwq.symm
          subst hwq
          gi_wp2_with fail
          refine (C2.out _).mono ?_
          rintro e wq ⟨rfl, hwq⟩
          replace hwq := hwq.symm
          subst hwq
          obtain ⟨fn, tmps, assign, body, hy, hR⟩ := hY (chgsSS ta tb pre) (chgVSS (str kl) (str xl2) false) W2 hj ⟨_, by rw [HX.out, hc]; rfl⟩ 6
          gi_wp2_with (refine hR.mono ?_; clear hR; rintro e W3 ⟨hk, ⟨rfl, hj4⟩ | ⟨rfl, hx4⟩⟩)
          · exact ⟨hk.more hle, by rw [HP.out, hc]; exact hj4, hk.box hb (Nat.le_refl _) w5⟩
          · exact ⟨hk.more hle, rfl, _, ⟨_, by rw [HX.out, hc, ← List.append_assoc]; rfl⟩, hx4⟩
      · obtain ⟨xl1, rfl⟩ := v1 x1 rfl
        rcases r2 with _ | x2
        · dsimp only [Option.getD, Option.isSome] at C1 C2
          gi_wp2_with fail
          refine (C1.out _).mono ?_
          rintro e wq ⟨rfl, hwq⟩
          replace hwq := hwq.symm
          subst hwq
          gi_wp2_with fail
          refine (C2.out _).mono ?_
          rintro e wq ⟨rfl, hwq⟩
          replace hwq := hwq.symm
          subst hwq
          obtain ⟨fn, tmps, assign, body, hy, hR⟩ := hY (chgsSS ta tb pre) (chgVSS (str kl) (str []) true) W2 hj ⟨_, by rw [HX.out, hc]; rfl⟩ 6
          gi_wp2_with (refine hR.mono ?_; clear hR; rintro e W3 ⟨hk, ⟨rfl, hj4⟩ | ⟨rfl, hx4⟩⟩)
          · exact ⟨hk.more hle, by rw [HP.out, hc]; exact hj4, hk.box hb (Nat.le_refl _) w5⟩
          · exact ⟨hk.more hle, rfl, _, ⟨_, by rw [HX.out, hc, ← List.append_assoc]; rfl⟩, hx4⟩
        · obtain ⟨xl2, rfl⟩ := v2 x2 rfl
          have CS : Hid (∀ m w', CallsIn (Fence.wide.inRound l2) m Try.prog 38 #[str xl1, str xl2] w' fun e w3 => e = .returned (.bool (xl1 == xl2)) ∧ Below w'.heap.size w' w3) := Lib.hid (fun m w' => (callsIn_wide.2 (sameSS_any xl1 xl2 w')).inRound l2)
          have hc : c = if (xl1 == xl2) = true then none else some (chgVSS (str kl) (str xl2) false) := by rw [hc]; rfl
          cases hs : (xl1 == xl2)
          · rw [hs] at hc CS
            dsimp only [Option.getD, Option.isSome] at C1 C2
            gi_wp2_with fail
            refine (C1.out _).mono ?_
            rintro e wq ⟨rfl, hwq⟩
            replace hwq := hwq.symm
            subst hwq
            gi_wp2_with fail
            refine (C2.out _).mono ?_
            rintro e wq ⟨rfl, hwq⟩
            replace hwq := hwq.symm
            subst hwq
            gi_wp2_with fail
            refine (CS.out _ _).mono ?_
            rintro e w3 ⟨rfl, hb3⟩
            have hj3 : J (chgsSS ta tb pre) w3 := hJ.plain _ _ _ none hj (grown_below hb3 rfl) (fun r e => by cases e)
            have bY3 : Boxed w3 W.heap.size 65 (.func (.yield l) #[] #[]) := by show w3.heap[W.heap.size]? = _; rw [hb3.block W.heap.size hb.lt]; exact hb
            have cY3 := bY3.cell
            obtain ⟨fn, tmps, assign, body, hy, hR⟩ := hY (chgsSS ta tb pre) (chgVSS (str kl) (str xl2) false) w3 hj3 ⟨_, by rw [HX.out, hc]; rfl⟩ 6
            gi_wp2_with (refine hR.mono ?_; clear hR; rintro e W3 ⟨hk, ⟨rfl, hj4⟩ | ⟨rfl, hx4⟩⟩)
            · exact ⟨(KT.of_below hb3).trans (hk.more hle), by rw [HP.out, hc]; exact hj4, hk.box bY3 (Nat.le_refl _) w5⟩
            · exact ⟨(KT.of_below hb3).trans (hk.more hle), rfl, _, ⟨_, by rw [HX.out, hc, ← List.append_assoc]; rfl⟩, hx4⟩
          · rw [hs] at hc CS
            dsimp only [Option.getD, Option.isSome] at C1 C2
            gi_wp2_with fail
            refine (C1.out _).mono ?_
            rintro e wq ⟨rfl, hwq⟩
            replace hwq := hwq.symm
            subst hwq
            gi_wp2_with fail
            refine (C2.out _).mono ?_
            rintro e wq ⟨rfl, hwq⟩
            replace hwq := hwq.symm
            subst hwq
            gi_wp2_with fail
            refine (CS.out _ _).mono ?_
            rintro e w3 ⟨rfl, hb3⟩
            have hj3 : J (chgsSS ta tb pre) w3 := hJ.plain _ _ _ none hj (grown_below hb3 rfl) (fun r e => by cases e)
            have bY3 : Boxed w3 W.heap.size 65 (.func (.yield l) #[] #[]) := by show w3.heap[W.heap.size]? = _; rw [hb3.block W.heap.size hb.lt]; exact hb
            have cY3 := bY3.cell
            gi_wp2_with fail
            refine ⟨KT.of_below hb3, ?_, bY3⟩
            rw [HP.out, hc]
            simpa using hj3
    case done =>
      rintro D W2 hD ⟨hj, _⟩ hK
      gi_wp2
      refine ⟨by simp, .inl ⟨_, _, rfl, run_takeDeferred hK, ?_⟩⟩
      exact ⟨_, results_none rfl _ _ _, ⟨_, rfl⟩, .inl (hJ.plain.putObj _ hj (by omega) hK rfl)⟩
    case stop =>
      rintro D c pre W2 hD hx ⟨rfl, out, ht, hj⟩ hK
      gi_wp2
      refine ⟨by simp, .inl ⟨_, _, rfl, run_takeDeferred hK, ?_⟩⟩
      exact ⟨_, results_none rfl _ _ _, ⟨_, rfl⟩, .inr ⟨out, ht, hJx.plain.putObj _ hj (by omega) hK rfl⟩⟩
theorem of1SS_seqs {Wr : TypeId → Prop} {w W : World} {b1 b2 ba bb : Nat} {ta tb : Tr} (h : OfPSS w b1 b2 ta tb) (hca : w.cell? ⟨ba, 0, none⟩ = some (.pointer (some ⟨b1, 0, none⟩))) (hcb : w.cell? ⟨bb, 0, none⟩ = some (.pointer (some ⟨b2, 0, none⟩))) (hW : Below w.heap.size w W)
    (w1 : ¬ Wr 92) (w2 : ¬ Wr 95) (w3 : ¬ Wr 63) (w4 : ¬ Wr 75) (w5 : ¬ Wr 65) :
    SeqsW MrgTSS Try.prog 33 #[.pointer (some ⟨ba, 0, none⟩), .pointer (some ⟨bb, 0, none⟩)] (fun c : Value => #[c]) (fun X => Below w.heap.size w X) Wr (chgLSS ta tb) W :=
  of1SS_seqs' h hca hcb hW (fun _ hX => ⟨NK.of_below hX, (hX.cell (p := ⟨ba, 0, none⟩) (World.block_lt_of_cell? w _ hca)).trans hca, (hX.cell (p := ⟨bb, 0, none⟩) (World.block_lt_of_cell? w _ hcb)).trans hcb, h.ma.below hX, h.mb.below hX⟩) w1 w2 w3 w4 w5
end Go.Proofs.Yteibiaplmmdppaa
