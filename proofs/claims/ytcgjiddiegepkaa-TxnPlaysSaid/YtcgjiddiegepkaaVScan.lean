import Derived.Test.YtcgjiddiegepkaaVAddVS
import Derived.Test.YtcgjiddiegepkaaRiseVS
import Derived.Test.YtcgjiddiegepkaaMapVS
import Derived.Test.YtcgjiddiegepkaaTwoRows
import Derived.Test.YtcgjiddiegepkaaOnlyF
/- A store of versions of string: add, Put, Kill, Get, New, Count. -/
namespace Go.Proofs.Ytcgjiddiegepkaa
open Go.RowKit

/-- What add tells. -/
def addCVS (l : List VerVS) (low : Int) (v : VerVS) : Int := if v.1 < 1 ∨ 1099511627776 < v.1 then 1 else if v.1 ≤ lastTVS l ∨ v.1 < low then 12 else 0
/-- What add leaves. -/
def AddYVS (W : World) (B s mb : Nat) (S : ChsVS) (cnt low : Int) (k : Nat) (key : List UInt8) (v : VerVS) (W' : World) : Prop :=
  ∃ t' v', StVS W' B s mb t' (insB key (v', verSVS key S ++ [v]) S) (cnt + 1) low (k + 1) ∧ Frm (BlkVS s mb S) W W' ∧ ∀ i, BlkVS s mb (insB key (v', verSVS key S ++ [v]) S) i → BlkVS s mb S i ∨ W.heap.size ≤ i
def AddPVS (W : World) (B s mb : Nat) (S : ChsVS) (cnt low : Int) (k : Nat) (key : List UInt8) (v : VerVS) (C : Int) (e : Ending) (W' : World) : Prop :=
  e = .returned (.int .i64 C) ∧ (C ≠ 0 → Below W.heap.size W W') ∧ (C = 0 → AddYVS W B s mb S cnt low k key v W')
theorem last_risVS {l : List VerVS} {v : VerVS} (hr : RisT (timesVS l)) (h : lastTVS l < v.1) : RisT (timesVS (l ++ [v])) := by
  unfold RisT timesVS at hr ⊢
  rw [List.map_append, List.pairwise_append]
  refine ⟨hr, by simp, fun a ha b hb => ?_⟩
  obtain rfl : b = v.1 := by simpa using hb
  obtain ⟨i, hi, rfl⟩ := List.mem_iff_getElem.1 ha
  rw [List.length_map] at hi
  have hne : l ≠ [] := by rintro rfl; simp at hi
  have hlast : lastTVS l = l[l.length - 1].1 := by
    unfold lastTVS
    rw [List.getLast?_eq_getElem?, List.getElem?_eq_getElem (by omega)]; rfl
  rw [hlast] at h
  rcases Nat.lt_or_ge i (l.length - 1) with h1 | h1
  · have h2 := List.pairwise_iff_getElem.1 hr i (l.length - 1) (by simpa using hi) (by simp; omega) h1
    simp only [List.getElem_map] at h2 ⊢
    omega
  · have e : i = l.length - 1 := by omega
    subst e
    simpa using h
theorem StVS.set {W : World} {B s mb : Nat} {t : Tr} {S : ChsVS} {cnt low cnt' : Int} {k : Nat} (h : StVS W B s mb t S cnt low k) : StVS (W.setCell ⟨s, 1, none⟩ (.int .i64 cnt')) B s mb t S cnt' low k ∧ Frm (fun i => i = s) W (W.setCell ⟨s, 1, none⟩ (.int .i64 cnt')) := by
  have hf : Frm (fun i => i = s) W (W.setCell ⟨s, 1, none⟩ (.int .i64 cnt')) := Frm.set _ rfl
  have h3 := h.box
  refine ⟨⟨?_, MP.frm hf (fun i hi => by subst hi; exact h.five i (.inl rfl)) (fun e => h.ne e.symm) h.mp, h.ws, h.pr, h.rs, fun x hx => owns_frm (h.ch x hx) hf (fun i hi => (h.apart hx hi).2), h.ap, h.tr, h.hk, h.lo⟩, hf⟩
  have hlt := h.slt
  have h' : W.heap[s] = .cells #[.pointer (some ⟨mb, 0, none⟩), .int .i64 cnt, .int .i64 low] 87 (0, 0) := by simpa [Array.getElem?_eq_getElem hlt] using h3
  show (W.heap.modify s _)[s]? = _
  rw [Array.getElem?_eq_getElem (by simpa using hlt), Array.getElem_modify_self, h']
  rfl
theorem StVS.setLow {W : World} {B s mb : Nat} {t : Tr} {S : ChsVS} {cnt low low' : Int} {k : Nat} (h : StVS W B s mb t S cnt low k) : StVS (W.setCell ⟨s, 2, none⟩ (.int .i64 low')) B s mb t S cnt low' k ∧ Frm (fun i => i = s) W (W.setCell ⟨s, 2, none⟩ (.int .i64 low')) := by
  have hf : Frm (fun i => i = s) W (W.setCell ⟨s, 2, none⟩ (.int .i64 low')) := Frm.set _ rfl
  have h3 := h.box
  refine ⟨⟨?_, MP.frm hf (fun i hi => by subst hi; exact h.five i (.inl rfl)) (fun e => h.ne e.symm) h.mp, h.ws, h.pr, h.rs, fun x hx => owns_frm (h.ch x hx) hf (fun i hi => (h.apart hx hi).2), h.ap, h.tr, h.hk, h.lo⟩, hf⟩
  have hlt := h.slt
  have h' : W.heap[s] = .cells #[.pointer (some ⟨mb, 0, none⟩), .int .i64 cnt, .int .i64 low] 87 (0, 0) := by simpa [Array.getElem?_eq_getElem hlt] using h3
  show (W.heap.modify s _)[s]? = _
  rw [Array.getElem?_eq_getElem (by simpa using hlt), Array.getElem_modify_self, h']
  rfl
theorem StVS.putf {W : World} {B s mb : Nat} {t : Tr} {S : ChsVS} {cnt low : Int} {k : Nat} (h : StVS W B s mb t S cnt low k) (key : List UInt8) : ¬ PutFVS mb (valSVS key S) s := by
  rintro (e | hi)
  · exact h.ne e
  · unfold valSVS at hi
    cases e : getB key S with
    | none => rw [e] at hi; simp [Value.ownBlock] at hi
    | some y => rw [e] at hi; exact (h.apart (getB_mem e) hi).2 rfl
/-- Where add's append stands. -/
structure ApMVS (W1 W7 : World) (B : Nat) (S : ChsVS) (key : List UInt8) (v : VerVS) (g n cap : Nat) : Prop where
  own : W7.ownsRow B 90 3 (.slice (some ⟨g, 0, none⟩) n cap) (verSVS key S ++ [v]).length (((verSVS key S ++ [v]).map cellsVS).flatten)
  frm : Frm (fun i => (valSVS key S).ownBlock = some i) W1 W7
  at' : (valSVS key S).ownBlock = some g ∨ W1.heap.size ≤ g
/-- Behind the put. -/
def PutPVS (W1 W8 : World) (B s mb : Nat) (S : ChsVS) (cnt low : Int) (k : Nat) (key : List UInt8) (v : VerVS) : Prop :=
  ∃ t' v', StVS W8 B s mb t' (insB key (v', verSVS key S ++ [v]) S) cnt low (k + 1) ∧ Frm (PutFVS mb (valSVS key S)) W1 W8 ∧ ∀ i, v'.ownBlock = some i → (valSVS key S).ownBlock = some i ∨ W1.heap.size ≤ i
theorem row_snocVS {w : World} {base : Nat} {u : Value} {L : List VerVS} {m : VerVS} {N : Nat} (h : w.ownsRow base 90 3 u (N + 1) ((L.map cellsVS).flatten ++ cellsVS m)) (hN : N = L.length) : w.ownsRow base 90 3 u (L ++ [m]).length ((L ++ [m]).map cellsVS).flatten := by
  subst hN
  simpa using h
set_option maxRecDepth 100000 in
set_option maxHeartbeats 4000000 in
theorem addVS_any {W : World} {B s mb : Nat} {t : Tr} {S : ChsVS} {cnt low : Int} {k : Nat} (h : StVS W B s mb t S cnt low k) (hk : k ≤ 100000) (hc : 0 ≤ cnt ∧ cnt ≤ 1000000000) (key : List UInt8) (v : VerVS) (hB : B ≤ W.heap.size) :
    Calls Try.prog 47 #[.pointer (some ⟨s, 0, none⟩), str key, encVS v] W (AddPVS W B s mb S cnt low k key v (addCVS (verSVS key S) low v)) := by
  obtain ⟨a, b, c⟩ := v
  have HB := Lib.hid (below_alloc W (.cells #[.int .i64 a, str b, .bool c] 90))
  have hst0 := h.below HB.out
  obtain ⟨C, hC⟩ : ∃ C, C = addCVS (verSVS key S) low (a, b, c) := ⟨_, rfl⟩
  rw [← hC]
  unfold addCVS at hC
  dsimp only at hC
  by_cases h1 : a < 1
  · rw [if_pos (.inl h1)] at hC
    subst hC
    clear h hst0
    go_enter Try.func47, Try.ntmps47
    go_wp2_with fail
    go_ret
    exact ⟨rfl, fun _ => HB.out, fun h => absurd h (by decide)⟩
  by_cases h2 : 1099511627776 < a
  · rw [if_pos (.inr h2)] at hC
    subst hC
    clear h hst0
    go_enter Try.func47, Try.ntmps47
    go_wp2_with fail
    go_ret
    exact ⟨rfl, fun _ => HB.out, fun h => absurd h (by decide)⟩
  rw [if_neg (by rintro (h | h) <;> omega)] at hC
  obtain ⟨L, hL⟩ : ∃ L, L = lastTVS (verSVS key S) := ⟨_, rfl⟩
  have CL : Hid (∀ n, Calls Try.prog 24 #[.pointer (some ⟨s, 0, none⟩), str key] ((W.alloc (.cells #[.int .i64 a, str b, .bool c] 90)).drewN n) fun e w' => e = .returned (.int .i64 L) ∧ w' = (W.alloc (.cells #[.int .i64 a, str b, .bool c] 90)).drewN n) :=
    Lib.hid (fun n => (lastVS_any (hst0.drewN n) (by omega) key).mono (by rintro e w' ⟨rfl, rfl⟩; exact ⟨by rw [hL], rfl⟩))
  rw [← hL] at hC
  have HL := Lib.hid hL
  have HST := Lib.hid hst0
  have HBK := Lib.hid (fun i => h.blk i)
  have HH := Lib.hid h
  obtain ⟨c0, _, c2, _⟩ := hst0.cells
  by_cases h3 : a ≤ L
  · rw [if_pos (.inl h3)] at hC
    subst hC
    clear h hst0 hL
    go_enter Try.func47, Try.ntmps47
    go_wp2_with fail
    go_quiet ((go_at_call 24; exact Calls.quiet_of_same (CL.out _)))
    go_wp2_with fail
    go_ret
    exact ⟨rfl, fun _ => Below.drewsN HB.out _, fun h => absurd h (by decide)⟩
  by_cases h4 : a < low
  · rw [if_pos (.inr h4)] at hC
    subst hC
    clear h hst0 hL
    go_enter Try.func47, Try.ntmps47
    go_wp2_with fail
    go_quiet ((go_at_call 24; exact Calls.quiet_of_same (CL.out _)))
    go_wp2_with fail
    go_ret
    exact ⟨rfl, fun _ => Below.drewsN HB.out _, fun h => absurd h (by decide)⟩
  rw [if_neg (by rintro (h | h) <;> omega)] at hC
  subst hC
  have HRS : Hid (RisT (timesVS (verSVS key S ++ [(a, b, c)]))) := Lib.hid (last_risVS (h.chain key).2.1 (by rw [← hL]; show L < a; omega))
  clear h hst0 hL
  go_enter Try.func47, Try.ntmps47
  go_wp2_with fail
  go_quiet ((go_at_call 24; exact Calls.quiet_of_same (CL.out _)))
  have HST1 := Lib.hid (HST.out.drewN nq)
  have HB1 := Lib.hid (Below.drewsN HB.out nq)
  have HX1 : Hid (((W.alloc (.cells #[.int .i64 a, str b, .bool c] 90)).drewN nq).heap[W.heap.size]? = some (.cells (cellsVS (a, b, c)).toArray 90 (0, 0))) := Lib.hid (heap_alloc_new W _)
  have HZ1 : Hid (((W.alloc (.cells #[.int .i64 a, str b, .bool c] 90)).drewN nq).heap.size = W.heap.size + 1) := Lib.hid (by simp)
  clear CL c0 c2 HST HB
  generalize (W.alloc (.cells #[.int .i64 a, str b, .bool c] 90)).drewN nq = W1 at *
  obtain ⟨c0, _, _, _⟩ := HST1.out.cells
  have CG := Lib.hid (getSVS_any HST1.out key)
  obtain ⟨V, hV⟩ : ∃ V, V = valSVS key S := ⟨_, rfl⟩
  obtain ⟨z, hz⟩ : ∃ z, z = (getB key S).isSome := ⟨_, rfl⟩
  rw [← hV] at CG
  rw [← hz] at CG
  have HV := Lib.hid hV
  clear hV hz
  go_wp2_with fail
  refine CG.out.mono ?_
  rintro e w' ⟨rfl, rfl⟩
  obtain ⟨i0, hi, hz0, hz1, hz2⟩ := info_parts infoVS
  obtain ⟨N, hN⟩ : ∃ N, N = (verSVS key S).length := ⟨_, rfl⟩
  have hNk : N ≤ 100000 := by have := (HST1.out.chain key).2.2; omega
  have HN0 := Lib.hid hN
  clear hN
  have HKP : Hid (∀ W', Frm (PutFVS mb V) W1 W' → W'.cell? ⟨s, 0, none⟩ = some (.pointer (some ⟨mb, 0, none⟩)) ∧ W'.cell? ⟨W.heap.size, 0, none⟩ = some (.int .i64 a) ∧ W'.cell? ⟨W.heap.size, 1, none⟩ = some (str b) ∧ W'.cell? ⟨W.heap.size, 2, none⟩ = some (.bool c)) := Lib.hid (fun W' hf => by
    have e1 : W'.heap[s]? = W1.heap[s]? := hf.block s HST1.out.slt (by rw [HV.out]; exact HST1.out.putf key)
    have e2 : W'.heap[W.heap.size]? = W1.heap[W.heap.size]? := hf.block _ (by rw [HZ1.out]; omega) (fun hp => by
      have := (HBK.out _ (valSVS_blk (s := s) (key := key) (S := S) (by rw [← HV.out]; exact hp))).2
      omega)
    rw [HX1.out] at e2
    rw [HST1.out.box] at e1
    exact ⟨by simp [World.cell?, e1], by simp [World.cell?, e2, cellsVS], by simp [World.cell?, e2, cellsVS], by simp [World.cell?, e2, cellsVS]⟩)
  have HS0 := Lib.hid (HKP.out W1.drew (Frm.of_below (Below.drewsN (Below.refl _ _) 1)))
  have HA : Hid (Frm (PutFVS mb V) W1 (W1.alloc (.cells #[.int .i64 a, str b, .bool c] 90)).drew) := Lib.hid (Frm.of_below (Below.drewsN (below_alloc W1 _) 1))
  have HO : Hid (W1.drew.ownsRow B 90 3 V N ((verSVS key S).map cellsVS).flatten) := Lib.hid (by rw [HN0.out, HV.out]; exact (HST1.out.chain key).1)
  have hB1 : B ≤ W1.heap.size := by have := HZ1.out; omega
  obtain ⟨Z, hZ⟩ : ∃ Z, Z = newT (str key) t := ⟨_, rfl⟩
  have CP : Hid (∀ W7 g cap, Hid (ApMVS W1 W7 B S key (a, b, c) g (N + 1) cap) → Calls Try.prog 65 #[.pointer (some ⟨mb, 0, none⟩), str key, .slice (some ⟨g, 0, none⟩) (N + 1) cap] W7 fun e W8 => e = .returned (.bool Z) ∧ Hid (PutPVS W1 W8 B s mb S cnt low k key (a, b, c))) :=
    Lib.hid (fun W7 g cap H => (putSVS_any HST1.out (by omega) key (verSVS key S ++ [(a, b, c)]) g (N + 1) cap H.out.own H.out.frm HRS.out (by simp; exact (HST1.out.chain key).2.2) H.out.at').mono (by
      rintro e W8 ⟨rfl, h1, h2⟩
      exact ⟨by rw [hZ], Lib.hid ⟨_, _, h1, h2, fun i hi => by
        have : g = i := by simpa [Value.ownBlock] using hi
        subst this
        exact H.out.at'⟩⟩))
  clear hZ c0
  have d0 := HS0.out.1
  have d1 := HS0.out.2.1
  have d2 := HS0.out.2.2.1
  have d3 := HS0.out.2.2.2
  have HD := Lib.hid (And.intro d0 (And.intro d1 (And.intro d2 d3)))
  go_wp2_with fail
  go_region_held3 (fun W' => W'.cell? ⟨s, 0, none⟩ = some (.pointer (some ⟨mb, 0, none⟩)) ∧ W'.cell? ⟨W.heap.size, 0, none⟩ = some (.int .i64 a) ∧ W'.cell? ⟨W.heap.size, 1, none⟩ = some (str b) ∧ W'.cell? ⟨W.heap.size, 2, none⟩ = some (.bool c))
    (first
      | (exact HD.out)
      | (exact HKP.out _ HA.out)
      | (exact HKP.out _ HN7.out)
      | (exact HKP.out _ HN8.out)
      | go_keep)
    ((first
      | (refine step_appendL (by rfl) _ _ 83 (by rfl) (size := 3) (bytes := 32) Try.underlying83 hi hz0 hz1 hz2 rfl (by decide) (by rfl) (World.ownsRow.alloc HO.out _) [.int .i64 a, str b, .bool c] (by rfl) (heap_alloc_new _ _) rfl ?_ ?_ ?_ ?_ ?_
         · intro u hu
           simp only [List.mem_cons, List.not_mem_nil, or_false] at hu
           rcases hu with rfl | rfl | rfl <;> rfl
         · unfold maxLen; omega
         · omega
         · simp; omega
         intro g7 cap7 w7 ho7 hg7 hat7
         have HN : Hid (ApMVS W1 w7 B S key (a, b, c) g7 (N + 1) cap7) := Lib.hid ⟨row_snocVS ho7 HN0.out, (Frm.of_below (Below.drewsN (below_alloc W1 _) 1)).trans (Frm.of_grown hg7 (fun k hk => by rw [← HV.out]; exact hk)) (fun i _ hi => hi), by
           rcases hat7 with hat7 | hat7
           · exact .inl (by rw [← HV.out]; exact hat7)
           · right; rw [hat7]; simp⟩
         have HN7 : Hid (Frm (PutFVS mb V) W1 w7) := Lib.hid (HN.out.frm.mono (fun i _ hi => .inr (by rw [HV.out]; exact hi)))
         clear ho7 hg7 hat7)
      | (go_at_call 65; refine (CP.out _ _ _ HN).mono ?_; rintro e w8 ⟨rfl, HP8⟩; have HN8 : Hid (Frm (PutFVS mb V) W1 w8) := Lib.hid (by rw [HV.out]; obtain ⟨_, _, _, hf, _⟩ := HP8.out; exact hf))
      | fail))
  all_goals
    clear d0 d1 d2 d3 HD HS0 HA HO CP HKP HX1
    obtain ⟨t', v', hst8, hf8, hnew8⟩ := HP8.out
    obtain ⟨_, c1, _, cf⟩ := hst8.cells
    have cf1 := cf 1
    have HST8 := Lib.hid hst8
    have HF8 := Lib.hid (And.intro hf8 hnew8)
    have hw : IntKind.i64.wrap (cnt + 1) = cnt + 1 := IntWalk.i64_in _ (by omega)
    have hc1 : 0 ≤ cnt := hc.1
    have hc2 : cnt ≤ 1000000000 := hc.2
    clear hst8 hf8 hnew8 cf HP8 hc
    go_wp2_with fail
    go_ret
    obtain ⟨s1, s2⟩ := HST8.out.set (cnt' := cnt + 1)
    refine ⟨rfl, fun h => absurd rfl h, fun _ => ⟨t', v', s1, ?_, ?_⟩⟩
    · refine ((Frm.of_below HB1.out).trans HF8.out.1 (fun i _ hi => valSVS_blk hi)).trans s2 (fun i _ hi => .inl hi)
    · rintro i (rfl | rfl | ⟨x, hx, hi⟩)
      · exact .inl (.inl rfl)
      · exact .inl (.inr (.inl rfl))
      · rcases insB_mem HST1.out.rs x hx with rfl | ⟨hx, _⟩
        · rcases HF8.out.2 i hi with h | h
          · exact .inl (valSVS_blk (.inr h))
          · right; have := HZ1.out; omega
        · exact .inl (.inr (.inr ⟨x, hx, hi⟩))
theorem putVS_st {W : World} {B s mb : Nat} {t : Tr} {S : ChsVS} {cnt low : Int} {k : Nat} (h : StVS W B s mb t S cnt low k) (hk : k ≤ 100000) (hc : 0 ≤ cnt ∧ cnt ≤ 1000000000) (key : List UInt8) (at1 : Int) (x : (List UInt8)) (hB : B ≤ W.heap.size) :
    Calls Try.prog 25 #[.pointer (some ⟨s, 0, none⟩), .int .i64 at1, str key, str x] W (AddPVS W B s mb S cnt low k key (at1, x, false) (addCVS (verSVS key S) low (at1, x, false))) := by
  have C := Lib.hid (addVS_any h hk hc key (at1, x, false) hB)
  obtain ⟨c, hcc⟩ : ∃ c, c = addCVS (verSVS key S) low (at1, x, false) := ⟨_, rfl⟩
  rw [← hcc] at C ⊢
  clear h hcc
  go_enter Try.func25, Try.ntmps25
  go_wp2_with fail
  refine C.out.mono ?_
  rintro e w5 ⟨rfl, h1, h2⟩
  have HX := Lib.hid (And.intro h1 h2)
  clear h1 h2 C
  go_wp2_with fail
  go_ret
  exact ⟨rfl, HX.out.1, HX.out.2⟩
theorem newVS_st (W : World) : Calls Try.prog 38 #[] W fun e W' => ∃ s mb, e = .returned (.pointer (some ⟨s, 0, none⟩)) ∧ StVS W' W.heap.size s mb .nil [] 0 0 0 ∧ Below W.heap.size W W' ∧ W.heap.size ≤ W'.heap.size := by
  have CN := Lib.hid (newVS_any W)
  go_enter Try.func38, Try.ntmps38
  go_wp2_with fail
  refine CN.out.mono ?_
  rintro e w1 ⟨b, rfl, hb, hm, hb1⟩
  have H1 := Lib.hid (And.intro hb (And.intro hm hb1))
  clear hb hm hb1 CN
  go_wp2_with fail
  go_ret
  obtain ⟨h1, h2, h3⟩ := H1.out
  have hb2 := below_alloc w1 (.cells #[.pointer (some ⟨b, 0, none⟩), .int .i64 0, .int .i64 0] 87)
  have h4 := h3.trans (hb2.mono h3.size)
  exact ⟨_, b, rfl, ⟨heap_alloc_new w1 _, h2.below hb2, trivial, rfl, by simp [RisB], by simp, by simp, by simp, ⟨by simp [ht], by simp, by simp⟩, h3.size, by omega⟩, h4, h4.size⟩
theorem getVS_st {W : World} {B s mb : Nat} {t : Tr} {S : ChsVS} {cnt low : Int} {k : Nat} (h : StVS W B s mb t S cnt low k) (hk : k ≤ 100000) (key : List UInt8) (at1 : Int) :
    Calls Try.prog 43 #[.pointer (some ⟨s, 0, none⟩), str key, .int .i64 at1] W fun e W' => e = seenEVS (seenVS (verSVS key S) at1) ∧ Below W.heap.size W W' := by
  have CG := Lib.hid (getSVS_any h key)
  obtain ⟨c0, _, _, _⟩ := h.cells
  obtain ⟨ho, hr, hl⟩ := h.chain key
  have CS := Lib.hid (seenVS_any (valSVS key S) (verSVS key S) at1 W (rd_rowVS ho) hr (by omega))
  obtain ⟨v, hvv⟩ : ∃ v, v = valSVS key S := ⟨_, rfl⟩
  obtain ⟨z, hz⟩ : ∃ z, z = (getB key S).isSome := ⟨_, rfl⟩
  obtain ⟨⟨r1, r2⟩, hrr⟩ : ∃ r : (List UInt8) × Bool, r = ((seenVS (verSVS key S) at1).getD [], (seenVS (verSVS key S) at1).isSome) := ⟨_, rfl⟩
  have er : seenEVS (seenVS (verSVS key S) at1) = .returned (.tuple #[str r1, .bool r2]) := by
    unfold seenEVS
    rw [show r1 = (seenVS (verSVS key S) at1).getD [] from congrArg Prod.fst hrr, show r2 = (seenVS (verSVS key S) at1).isSome from congrArg Prod.snd hrr]
  rw [← hvv] at CG CS
  rw [← hz] at CG
  rw [er] at CS ⊢
  clear h ho hvv hz hr hl er hrr
  go_enter Try.func43, Try.ntmps43
  go_wp2_with fail
  refine CG.out.mono ?_
  rintro e w' ⟨rfl, rfl⟩
  go_wp2_with fail
  refine CS.out.mono ?_
  rintro e w' ⟨rfl, hb⟩
  have HX := Lib.hid hb
  clear hb CS CG c0
  go_wp2_with fail
  go_ret2
  exact ⟨rfl, HX.out⟩
/-- How many are dropped. -/
def dropNVS (l : List VerVS) (low : Int) : Nat := match upN (timesVS l) low with
  | 0 => 0
  | n + 1 => match l[n]? with
    | some v => if v.2.2 = true then n + 1 else n
    | none => 0
end Go.Proofs.Ytcgjiddiegepkaa

/- Maps in order, omap[string,[]handbill/vers.Version[string]]: All, what it ranges over. -/
namespace Go.Proofs.Ytcgjiddiegepkaa
open Go.RowKit
attribute [local go_sem] Oper.semAt_some wide_fn wide_depth

/-- A pair as what is handed on; a key alone. -/
theorem mallVS_any (b : Nat) (w : World) : Calls Try.prog 76 #[.pointer (some ⟨b, 0, none⟩)] w fun e w' =>
    e = .returned (.func (.func 84) #[] #[.pointer (some ⟨w.heap.size, 0, none⟩)]) ∧ w' = w.alloc (.cells #[.pointer (some ⟨b, 0, none⟩)] 85) := by
  go_enter Try.func76, Try.ntmps76
  go_wp2
  go_ret
  exact ⟨rfl, rfl⟩
set_option maxHeartbeats 1000000 in
theorem allsVS_any {Wr : TypeId → Prop} {b Bm : Nat} {t : Tr} {w W : World} (hm : MP w b t) (hc : w.cell? ⟨Bm, 0, none⟩ = some (.pointer (some ⟨b, 0, none⟩))) (hW : Below w.heap.size w W) :
    Seqs Try.prog 84 #[.pointer (some ⟨Bm, 0, none⟩)] (fun p => #[p.1, p.2]) (NK w) Wr (prs t) W := by
  intro l J Jx hJ hJx hOk hY h0
  have hc' : W.cell? ⟨Bm, 0, none⟩ = some (.pointer (some ⟨b, 0, none⟩)) := (hW.cell (p := ⟨Bm, 0, none⟩) (World.block_lt_of_cell? w _ hc)).trans hc
  obtain ⟨T, o, hb, ht⟩ := hm
  have hb' : W.heap[b]? = some (.cells #[.pointer o, .int .i64 ((prs t).length : Int)] T (0, 0)) := by rw [hW.block b (Array.getElem?_eq_some_iff.1 hb).1]; exact hb
  have c0 : W.cell? ⟨b, 0, none⟩ = some (.pointer o) := by simp [World.cell?, hb']
  have hr := riseVS_any (xs := prs t) hJ hOk hY t o [] W 8 ht h0 ⟨[], by simp⟩
  have hdd : ∀ k : Nat, (Fence.wide.depth.isSome = true → 1 ≤ k) := fun k h => by cases h
  clear hb hb' ht
  refine (callsIn_wide (n := 9)).1 ?_
  refine callsIn_of_wp Try.func84 rfl trivial ?_ rfl
  simp only [Try.ntmps84, List.size_toArray, List.length_cons, List.length_nil, Nat.reduceAdd, Nat.reduceSub, Array.replicate_succ, Array.replicate_zero, List.push_toArray, List.append_toArray, List.nil_append, List.cons_append]
  gi_wp2_with (gi_at_call 85; refine hr.mono ?_; clear hr; rintro e W1 (⟨rfl, hJ1⟩ | ⟨rfl, q, hq, hx⟩))
  · go_end0
    exact ⟨⟨_, rfl⟩, .inl (by simpa using hJ1)⟩
  · go_end0
    exact ⟨⟨_, rfl⟩, .inr ⟨q, hq, by simpa using hx⟩⟩
end Go.Proofs.Ytcgjiddiegepkaa

/- A store of versions of string: Prune. -/
namespace Go.Proofs.Ytcgjiddiegepkaa
open Go.RowKit
attribute [local go_sem] Oper.semAt_some wide_fn wide_depth

def chsVS (S : ChsVS) : List (List UInt8 × List VerVS) := S.map (fun x => (x.1, x.2.2))
theorem getB_midVS {k : List UInt8} {y : ChVS} {b : ChsVS} : ∀ {a : ChsVS}, RisB (a ++ (k, y) :: b) → getB k (a ++ (k, y) :: b) = some y
  | [], _ => by simp [getB, bl_irr]
  | (k', y') :: t, hr => by
    obtain ⟨r1, r2⟩ := List.pairwise_cons.1 hr
    have hl : Op.bytesLess k' k = true := r1 (k, y) (by simp)
    have hl2 : Op.bytesLess k k' = false := by
      cases e : Op.bytesLess k k' with
      | false => rfl
      | true => have := bl_tr _ _ _ e hl; rw [bl_irr] at this; cases this
    simp only [List.cons_append, getB, hl, hl2, Bool.false_eq_true, if_false, if_true]
    exact getB_midVS r2
theorem StVS.wide {W : World} {B s mb : Nat} {t : Tr} {S : ChsVS} {cnt low : Int} {k k' : Nat} (h : StVS W B s mb t S cnt low k) (hk : k ≤ k') : StVS W B s mb t S cnt low k' :=
  ⟨h.box, h.mp, h.ws, h.pr, h.rs, h.ch, h.ap, h.tr, ⟨Nat.le_trans h.hk.1 hk, Nat.le_trans h.hk.2.1 hk, fun x hx => Nat.le_trans (h.hk.2.2 x hx) hk⟩, h.lo⟩
end Go.Proofs.Ytcgjiddiegepkaa

/- A store of versions of string with one key: plain facts. -/
namespace Go.Proofs.Ytcgjiddiegepkaa
open Go.RowKit

/-- The blocks of a store lie behind what lay. -/
theorem StVS.down {W W' X : World} {B s mb : Nat} {t : Tr} {S : ChsVS} {cnt low : Int} {k : Nat} (h : StVS W B s mb t S cnt low k) (hf : Frm (BlkVS s mb S) W W') (hX : Below X.heap.size X W) (hB : X.heap.size ≤ B) : Below X.heap.size X W' :=
  hX.trans (hf.below hX.size (fun k hk => Nat.le_trans hB (h.blk k hk).1))
end Go.Proofs.Ytcgjiddiegepkaa

/- Scan of a store of versions of string: what it ranges over. -/
namespace Go.Proofs.Ytcgjiddiegepkaa
open Go.RowKit
attribute [local go_sem] Oper.semAt_some wide_fn wide_depth

/-- What a Scan hands on of one key. -/
def scan1 (lo : List UInt8) (at1 : Int) (x : List UInt8 × ChVS) : Option (List UInt8 × List UInt8) := if Op.bytesLess x.1 lo = true then none else (seenVS x.2.2 at1).map (fun r => (x.1, r))
def scanL (lo : List UInt8) (at1 : Int) (S : ChsVS) : List (List UInt8 × List UInt8) := S.filterMap (scan1 lo at1)
theorem scanL_snoc (lo : List UInt8) (at1 : Int) (A : ChsVS) (x : List UInt8 × ChVS) : scanL lo at1 (A ++ [x]) = scanL lo at1 A ++ (scan1 lo at1 x).toList := by
  unfold scanL
  rw [List.filterMap_append]
  congr 1
theorem scanL_app (lo : List UInt8) (at1 : Int) (A Q : ChsVS) : scanL lo at1 (A ++ Q) = scanL lo at1 A ++ scanL lo at1 Q := by unfold scanL; rw [List.filterMap_append]
theorem grown_of_below {X Y : World} (h : Below X.heap.size X Y) : X.grownBy Y none := ⟨h.os, h.tape, h.output, h.size, fun k hk _ => h.block k hk⟩
theorem own_below {β : Type} {B : Nat} {I : β → World → Prop} (h : OwnFrom B I) {s : β} {X Y : World} (hs : I s X) (hb : Below X.heap.size X Y) : I s Y := h s X Y none hs (grown_of_below hb) (fun r e => by cases e)
theorem alls2_any {Wr : TypeId → Prop} {b Bm : Nat} {t : Tr} {w W : World} (hm : MP w b t) (hc : W.cell? ⟨Bm, 0, none⟩ = some (.pointer (some ⟨b, 0, none⟩))) (hW : Below w.heap.size w W) :
    Seqs Try.prog 84 #[.pointer (some ⟨Bm, 0, none⟩)] (fun p => #[p.1, p.2]) (NK w) Wr (prs t) W := by
  intro l J Jx hJ hJx hOk hY h0
  obtain ⟨T, o, hb, ht⟩ := hm
  have hb' : W.heap[b]? = some (.cells #[.pointer o, .int .i64 ((prs t).length : Int)] T (0, 0)) := by rw [hW.block b (Array.getElem?_eq_some_iff.1 hb).1]; exact hb
  have c0 : W.cell? ⟨b, 0, none⟩ = some (.pointer o) := by simp [World.cell?, hb']
  have hr := riseVS_any (xs := prs t) hJ hOk hY t o [] W 8 ht h0 ⟨[], by simp⟩
  have hdd : ∀ k : Nat, (Fence.wide.depth.isSome = true → 1 ≤ k) := fun k h => by cases h
  clear hb hb' ht
  refine (callsIn_wide (n := 9)).1 ?_
  refine callsIn_of_wp Try.func84 rfl trivial ?_ rfl
  simp only [Try.ntmps84, List.size_toArray, List.length_cons, List.length_nil, Nat.reduceAdd, Nat.reduceSub, Array.replicate_succ, Array.replicate_zero, List.push_toArray, List.append_toArray, List.nil_append, List.cons_append]
  gi_wp2_with (gi_at_call 85; refine hr.mono ?_; clear hr; rintro e W1 (⟨rfl, hJ1⟩ | ⟨rfl, q, hq, hx⟩))
  · go_end0
    exact ⟨⟨_, rfl⟩, .inl (by simpa using hJ1)⟩
  · go_end0
    exact ⟨⟨_, rfl⟩, .inr ⟨q, hq, by simpa using hx⟩⟩
/-- Where Scan's boxes lie. -/
structure ScB (w : World) (b0 b1 b2 b3 s : Nat) (lo hi : List UInt8) (at1 : Int) : Prop where
  c0 : w.cell? ⟨b0, 0, none⟩ = some (.pointer (some ⟨s, 0, none⟩))
  c1 : w.cell? ⟨b1, 0, none⟩ = some (str lo)
  c2 : w.cell? ⟨b2, 0, none⟩ = some (str hi)
  c3 : w.cell? ⟨b3, 0, none⟩ = some (.int .i64 at1)
theorem ScB.up {w W : World} {b0 b1 b2 b3 s : Nat} {lo hi : List UInt8} {at1 : Int} (h : ScB w b0 b1 b2 b3 s lo hi at1) (hb : Below w.heap.size w W) : ScB W b0 b1 b2 b3 s lo hi at1 :=
  ⟨(hb.cell (p := ⟨b0, 0, none⟩) (World.block_lt_of_cell? w _ h.c0)).trans h.c0, (hb.cell (p := ⟨b1, 0, none⟩) (World.block_lt_of_cell? w _ h.c1)).trans h.c1, (hb.cell (p := ⟨b2, 0, none⟩) (World.block_lt_of_cell? w _ h.c2)).trans h.c2, (hb.cell (p := ⟨b3, 0, none⟩) (World.block_lt_of_cell? w _ h.c3)).trans h.c3⟩
theorem fromAll_any {W : World} {B s mb : Nat} {t : Tr} {S : ChsVS} {cnt low : Int} {k : Nat} (h : StVS W B s mb t S cnt low k) (lo : List UInt8) :
    Calls Try.prog 57 #[.pointer (some ⟨s, 0, none⟩), str lo, str []] W fun e w' => e = .returned (.func (.func 84) #[] #[.pointer (some ⟨W.heap.size, 0, none⟩)]) ∧ w' = W.alloc (.cells #[.pointer (some ⟨mb, 0, none⟩)] 85) := by
  obtain ⟨c0, _, _, _⟩ := h.cells
  have CA := Lib.hid (mallVS_any mb W)
  clear h
  go_enter Try.func57, Try.ntmps57
  go_wp2_with fail
  refine CA.out.mono ?_
  rintro e w' ⟨rfl, rfl⟩
  go_wp2_with fail
  go_ret
  exact ⟨rfl, rfl⟩
set_option maxRecDepth 100000 in
set_option maxHeartbeats 4000000 in
theorem scanAll_any {Wr : TypeId → Prop} {w W : World} {B s mb b0 b1 b2 b3 : Nat} {t : Tr} {S : ChsVS} {cnt low : Int} {k : Nat} (h : StVS w B s mb t S cnt low k) (hk : k ≤ 100000) {lo : List UInt8} {at1 : Int} (hb : ScB w b0 b1 b2 b3 s lo [] at1) (hW : Below w.heap.size w W) (hw : ¬ Wr 94) :
    Seqs Try.prog 56 #[.pointer (some ⟨b0, 0, none⟩), .pointer (some ⟨b1, 0, none⟩), .pointer (some ⟨b2, 0, none⟩), .pointer (some ⟨b3, 0, none⟩)] (fun p : List UInt8 × List UInt8 => #[str p.1, str p.2]) (fun W2 => Below w.heap.size w W2) Wr (scanL lo at1 S) W := by
  intro l J Jx hJ hJx hOk hY h0
  have hdd : ∀ k : Nat, (Fence.wide.depth.isSome = true → 1 ≤ k) := fun k h => by cases h
  obtain ⟨d0, d1, d2, _⟩ := hb.up (hW.trans ((below_alloc W (.cells #[.func (.yield l) #[] #[]] 94)).mono hW.size))
  have hs1 := h.below (hW.trans ((below_alloc W (.cells #[.func (.yield l) #[] #[]] 94)).mono hW.size))
  have CF := Lib.hid (callsIn_wide (n := 8) |>.2 (fromAll_any hs1 lo))
  have bY := Boxed.new W 94 (.func (.yield l) #[] #[])
  refine (callsIn_wide (n := 9)).1 ?_
  refine callsIn_of_wp_marks Try.func56 rfl trivial ?_ rfl
  simp only [Try.ntmps56, List.size_toArray, List.length_cons, List.length_nil, Nat.reduceAdd, Nat.reduceSub, Array.replicate_succ, Array.replicate_zero, List.push_toArray, List.append_toArray, List.nil_append, List.cons_append]
  gi_wp2_with fail
  refine CF.out.mono ?_
  rintro e w2 ⟨rfl, hw2⟩
  obtain ⟨W1, hW1⟩ : ∃ W1, W1 = W.alloc (.cells #[.func (.yield l) #[] #[]] 94) := ⟨_, rfl⟩
  rw [← hW1] at hw2 bY hs1 ⊢
  have l1 : Below W.heap.size W W1 := by rw [hW1]; exact below_alloc W _
  have l2 : Below W1.heap.size W1 w2 := by rw [hw2]; exact below_alloc W1 _
  have hz1 : W1.heap.size = W.heap.size + 1 := by rw [hW1]; simp
  have hz2 : w2.heap.size = W.heap.size + 2 := by rw [hw2]; simp [hz1]
  have c4 : w2.cell? ⟨W1.heap.size, 0, none⟩ = some (.pointer (some ⟨mb, 0, none⟩)) := by rw [hw2]; simp
  have hs2 := hs1.below l2
  have lw2 : Below w.heap.size w w2 := (hW.trans (l1.mono hW.size)).trans (l2.mono (by have := hW.size; omega))
  have hseq : ∀ W', Below w2.heap.size w2 W' → Seqs Try.prog 84 #[.pointer (some ⟨W1.heap.size, 0, none⟩)] (fun p : Value × Value => #[p.1, p.2]) (NK w) Wr (prs t) W' := fun W' hW' => alls2_any h.mp ((hW'.cell (p := ⟨W1.heap.size, 0, none⟩) (World.block_lt_of_cell? w2 _ c4)).trans c4) (lw2.trans (hW'.mono lw2.size))
  have hj0 : J (scanL lo at1 []) w2 := own_below hJ (own_below hJ h0 l1) l2
  have hy0 : Boxed w2 W.heap.size 94 (.func (.yield l) #[] #[]) := (l2.block _ (by omega)).trans bY
  have HPR := Lib.hid h.pr
  have HRW : Hid (∀ W2, Below w.heap.size w W2 → ∀ x ∈ S, RdVS W2 x.2.1 x.2.2 ∧ RisT (timesVS x.2.2) ∧ x.2.2.length ≤ 1000000) := Lib.hid (fun W2 hb2 x hx => ⟨(rd_rowVS (h.ch x hx)).up hb2, h.tr x hx, by have := h.hk.2.2 x hx; omega⟩)
  have HSB := Lib.hid hb
  have HZ2 := Lib.hid hz2
  clear l1 l2 hz1 c4 hs2 hs1 hW1 hw2 d0 d1 d2 bY h0 CF h hb
  gi_wp2_with fail
  refine range_law (gf := 84) (lb := #[.pointer (some ⟨W1.heap.size, 0, none⟩)]) rfl (enters_of Try.func84 (by kernel_rfl) rfl) (Ok := NK w) (Wr := Wr) (xs := prs t) hseq (by intro x; rfl)
    (fun pre W2 => (∃ A Q, S = A ++ Q ∧ pre = A.map (pairB Prod.fst) ∧ J (scanL lo at1 A) W2) ∧ Boxed W2 W.heap.size 94 (.func (.yield l) #[] #[]))
    (fun c _ W2 => c = .ret ∧ ∃ out, (∃ t, scanL lo at1 S = out ++ t) ∧ Jx out W2)
    (OwnFrom.and ?ownj (boxed_ownT (Tw := fun _ => False) _ _ (fun _ : List (Value × Value) => .func (.yield l) #[] #[]) (by simp) |>.from _ |>.plain)) (fun c => ?ownx) ⟨⟨[], S, rfl, rfl, hj0⟩, hy0⟩ ?okk ?a1 ?assign ?body ?done ?stop
  case ownj =>
    rintro s' X Y row ⟨A, Q, e1, e2, hj⟩ hg hr
    exact ⟨A, Q, e1, e2, hJ _ _ _ _ hj hg (fun r e => ⟨by have := (hr r e).1; have := HZ2.out; omega, (hr r e).2⟩)⟩
  case ownx =>
    rintro s' X Y row ⟨hc, out, ht, hj⟩ hg hr
    exact ⟨hc, out, ht, hJx _ _ _ _ hj hg (fun r e => ⟨by have := (hr r e).1; have := HZ2.out; omega, (hr r e).2⟩)⟩
  case okk =>
    rintro pre W2 ⟨⟨A, Q, _, _, hj⟩, _⟩
    exact NK.of_below (hOk _ _ hj)
  case assign =>
    intro l x W' K hK
    gi_wp2
    exact hK
  case body =>
    rintro l2 pre x W2 hl2 ⟨⟨A, Q, e1, e2, hj⟩, hbx⟩ ⟨tl, ht⟩
    obtain ⟨key, v, L, Q', rfl, rfl⟩ : ∃ key v L Q', Q = (key, (v, L)) :: Q' ∧ x = pairB Prod.fst ((key, (v, L)) : List UInt8 × ChVS) := by
      have h6 := HPR.out.symm.trans ht
      rw [e1, List.map_append, e2] at h6
      have h7 := List.append_cancel_left h6
      cases Q with
      | nil => cases h7
      | cons q Q' =>
        obtain ⟨key, v, L⟩ := q
        simp only [List.map_cons, List.cons.injEq] at h7
        exact ⟨key, v, L, Q', rfl, h7.1.symm⟩
    have hmem : (key, (v, L)) ∈ S := by rw [e1]; simp
    have hB2 := hOk _ _ hj
    obtain ⟨hrd, htr, hll⟩ := HRW.out W2 hB2 _ hmem
    dsimp only at hrd htr hll
    obtain ⟨_, c1, _, c3⟩ := HSB.out.up hB2
    have cY : W2.cell? ⟨W.heap.size, 0, none⟩ = some (.func (.yield l) #[] #[]) := hbx.cell
    have hC := seenVS_any v L at1 W2 hrd htr hll
    have hsn := scanL_snoc lo at1 A (key, (v, L))
    have hst : scanL lo at1 S = scanL lo at1 A ++ ((scan1 lo at1 (key, (v, L))).toList ++ scanL lo at1 Q') := by
      rw [e1, scanL_app, show (key, (v, L)) :: Q' = [(key, (v, L))] ++ Q' from rfl, scanL_app]
      congr 2
    have HA : Hid (S = A ++ [(key, (v, L))] ++ Q' ∧ pre ++ [pairB Prod.fst ((key, (v, L)) : List UInt8 × ChVS)] = (A ++ [(key, (v, L))]).map (pairB Prod.fst)) := Lib.hid ⟨by rw [e1]; simp, by rw [e2]; simp⟩
    unfold scan1 at hsn hst
    dsimp only at hsn hst
    obtain ⟨rs, hrs⟩ : ∃ rs, rs = seenVS L at1 := ⟨_, rfl⟩
    rw [← hrs] at hC hsn hst
    have HSN := Lib.hid hsn
    have HST := Lib.hid hst
    have HJ := Lib.hid hj
    have HBX := Lib.hid hbx
    have HLE : Hid (W.heap.size ≤ w2.heap.size) := Lib.hid (by have := HZ2.out; omega)
    clear hmem hrd htr hll hsn hst e1 e2 ht hseq hj0 hy0 hj hbx hrs
    dsimp only [pairB]
    by_cases hlo : Op.bytesLess key lo = true
    · gi_wp2
      refine ⟨KT.refl _ _ _, ⟨A ++ [(key, (v, L))], Q', HA.out.1, HA.out.2, ?_⟩, HBX.out⟩
      have := HSN.out
      rw [if_pos hlo] at this
      rw [this]
      simpa using HJ.out
    · have hlo' : Op.bytesLess key lo = false := by simpa using hlo
      have HC1 : Hid (∀ m, CallsIn (Fence.wide.inRound l2) m Try.prog 58 #[v, .int .i64 at1] W2 fun e w' => e = seenEVS rs ∧ Below W2.heap.size W2 w') := Lib.hid (fun m => (callsIn_wide.2 hC).inRound l2)
      have HSN2 := Lib.hid (by have := HSN.out; rw [if_neg hlo] at this; exact this)
      have HST2 := Lib.hid (by have := HST.out; rw [if_neg hlo] at this; exact this)
      clear hC HSN HST hlo
      cases rs with
      | none =>
        unfold seenEVS at HC1
        gi_wp2_with fail
        refine (HC1.out _).mono ?_
        rintro e w3 ⟨rfl, hb3⟩
        have H3 := Lib.hid hb3
        clear hb3
        gi_wp2
        refine ⟨KT.of_below H3.out, ⟨A ++ [(key, (v, L))], Q', HA.out.1, HA.out.2, ?_⟩, (H3.out.block _ (Array.getElem?_eq_some_iff.1 (show W2.heap[W.heap.size]? = _ from HBX.out)).1).trans HBX.out⟩
        rw [HSN2.out]
        simpa using own_below hJ HJ.out H3.out
      | some r =>
        unfold seenEVS at HC1
        gi_wp2_with fail
        refine (HC1.out _).mono ?_
        rintro e w3 ⟨rfl, hb3⟩
        have H3 := Lib.hid hb3
        have cY3 : w3.cell? ⟨W.heap.size, 0, none⟩ = some (.func (.yield l) #[] #[]) := (hb3.cell (p := ⟨W.heap.size, 0, none⟩) (World.block_lt_of_cell? W2 _ cY)).trans cY
        have hj3 := own_below hJ HJ.out hb3
        have hbx3 : Boxed w3 W.heap.size 94 (.func (.yield l) #[] #[]) := (hb3.block _ (Array.getElem?_eq_some_iff.1 (show W2.heap[W.heap.size]? = _ from HBX.out)).1).trans HBX.out
        obtain ⟨fn, tmps, assign, body, hy, hR⟩ := hY (scanL lo at1 A) (key, r) w3 hj3 ⟨scanL lo at1 Q', by rw [HST2.out]; rfl⟩ 6
        have HB3 := Lib.hid hbx3
        clear hb3 hj3 hbx3 HC1
        gi_wp2_with (refine hR.mono ?_; clear hR; rintro e W4 ⟨hk, ⟨rfl, hj4⟩ | ⟨rfl, hx4⟩⟩)
        · exact ⟨(KT.of_below H3.out).trans (hk.more HLE.out), ⟨A ++ [(key, (v, L))], Q', HA.out.1, HA.out.2, by rw [HSN2.out]; exact hj4⟩, hk.box HB3.out (Nat.le_refl _) hw⟩
        · exact ⟨(KT.of_below H3.out).trans (hk.more HLE.out), rfl, _, ⟨scanL lo at1 Q', by rw [HST2.out, ← List.append_assoc]; rfl⟩, hx4⟩
  case done =>
    rintro D W2 hD ⟨⟨A, Q, e1, e2, hj⟩, _⟩ hK
    have hA : A = S := by
      have h6 := HPR.out.symm.trans e2
      rw [e1, List.map_append] at h6
      have h7 := congrArg List.length h6
      simp at h7
      rw [e1, h7, List.append_nil]
    subst hA
    gi_wp2
    refine ⟨by simp, .inl ⟨_, _, rfl, run_takeDeferred hK, ?_⟩⟩
    exact ⟨_, results_none rfl _ _ _, ⟨_, rfl⟩, .inl (hJ.putObj _ hj (by have := HZ2.out; omega) hK rfl)⟩
  case stop =>
    rintro D c pre W2 hD hx ⟨rfl, out, ht, hj⟩ hK
    gi_wp2
    refine ⟨by simp, .inl ⟨_, _, rfl, run_takeDeferred hK, ?_⟩⟩
    exact ⟨_, results_none rfl _ _ _, ⟨_, rfl⟩, .inr ⟨out, ht, hJx.putObj _ hj (by have := HZ2.out; omega) hK rfl⟩⟩
end Go.Proofs.Ytcgjiddiegepkaa
