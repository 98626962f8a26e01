/- A store of versions of string: add, Put, Kill, Get, New, Count. -/
import Derived.Test.YtdlacjdddjebgaaVAddVS
namespace Go.Proofs.Ytdlacjdddjebgaa
open Go.RowKit

/-- What add tells. -/
def addCVS (l : List VerVS) (low : Int) (v : VerVS) : Int := if v.1 < 1 ∨ 1099511627776 < v.1 then 1 else if v.1 ≤ lastTVS l ∨ v.1 < low then 12 else 0
/-- What add leaves. -/
def AddYVS (W : World) (B s mb : Nat) (S : ChsVS) (cnt low : Int) (k : Nat) (key : List UInt8) (v : VerVS) (W' : World) : Prop :=
  ∃ t' v', StVS W' B s mb t' (insB key (v', verSVS key S ++ [v]) S) (cnt + 1) low (k + 1) ∧ Frm (BlkVS s mb S) W W' ∧ ∀ i, BlkVS s mb (insB key (v', verSVS key S ++ [v]) S) i → BlkVS s mb S i ∨ W.heap.size ≤ i
def AddPVS (W : World) (B s mb : Nat) (S : ChsVS) (cnt low : Int) (k : Nat) (key : List UInt8) (v : VerVS) (C : Int) (e : Ending) (W' : World) : Prop :=
  e = .returned (.int .i64 C) ∧ (C ≠ 0 → Below W.heap.size W W') ∧ (C = 0 → AddYVS W B s mb S cnt low k key v W')
theorem last_risVS {l : List VerVS} {v : VerVS} (hr : RisT (timesVS l)) (h : lastTVS l < v.1) : RisT (timesVS (l ++ [v])) := by
  unfold RisT timesVS at hr ⊢
  rw [List.map_append, List.pairwise_append]
  refine ⟨hr, by simp, fun a ha b hb => ?_⟩
  obtain rfl : b = v.1 := by simpa using hb
  obtain ⟨i, hi, rfl⟩ := List.mem_iff_getElem.1 ha
  rw [List.length_map] at hi
  have hne : l ≠ [] := by rintro rfl; simp at hi
  have hlast : lastTVS l = l[l.length - 1].1 := by
    unfold lastTVS
    rw [List.getLast?_eq_getElem?, List.getElem?_eq_getElem (by omega)]; rfl
  rw [hlast] at h
  rcases Nat.lt_or_ge i (l.length - 1) with h1 | h1
  · have h2 := List.pairwise_iff_getElem.1 hr i (l.length - 1) (by simpa using hi) (by simp; omega) h1
    simp only [List.getElem_map] at h2 ⊢
    omega
  · have e : i = l.length - 1 := by omega
    subst e
    simpa using h
theorem StVS.set {W : World} {B s mb : Nat} {t : Tr} {S : ChsVS} {cnt low cnt' : Int} {k : Nat} (h : StVS W B s mb t S cnt low k) : StVS (W.setCell ⟨s, 1, none⟩ (.int .i64 cnt')) B s mb t S cnt' low k ∧ Frm (fun i => i = s) W (W.setCell ⟨s, 1, none⟩ (.int .i64 cnt')) := by
  have hf : Frm (fun i => i = s) W (W.setCell ⟨s, 1, none⟩ (.int .i64 cnt')) := Frm.set _ rfl
  have h3 := h.box
  refine ⟨⟨?_, MP.frm hf (fun i hi => by subst hi; exact h.five i (.inl rfl)) (fun e => h.ne e.symm) h.mp, h.ws, h.pr, h.rs, fun x hx => owns_frm (h.ch x hx) hf (fun i hi => (h.apart hx hi).2), h.ap, h.tr, h.hk, h.lo⟩, hf⟩
  have hlt := h.slt
  have h' : W.heap[s] = .cells #[.pointer (some ⟨mb, 0, none⟩), .int .i64 cnt, .int .i64 low] 71 (0, 0) := by simpa [Array.getElem?_eq_getElem hlt] using h3
  show (W.heap.modify s _)[s]? = _
  rw [Array.getElem?_eq_getElem (by simpa using hlt), Array.getElem_modify_self, h']
  rfl
theorem StVS.setLow {W : World} {B s mb : Nat} {t : Tr} {S : ChsVS} {cnt low low' : Int} {k : Nat} (h : StVS W B s mb t S cnt low k) : StVS (W.setCell ⟨s, 2, none⟩ (.int .i64 low')) B s mb t S cnt low' k ∧ Frm (fun i => i = s) W (W.setCell ⟨s, 2, none⟩ (.int .i64 low')) := by
  have hf : Frm (fun i => i = s) W (W.setCell ⟨s, 2, none⟩ (.int .i64 low')) := Frm.set _ rfl
  have h3 := h.box
  refine ⟨⟨?_, MP.frm hf (fun i hi => by subst hi; exact h.five i (.inl rfl)) (fun e => h.ne e.symm) h.mp, h.ws, h.pr, h.rs, fun x hx => owns_frm (h.ch x hx) hf (fun i hi => (h.apart hx hi).2), h.ap, h.tr, h.hk, h.lo⟩, hf⟩
  have hlt := h.slt
  have h' : W.heap[s] = .cells #[.pointer (some ⟨mb, 0, none⟩), .int .i64 cnt, .int .i64 low] 71 (0, 0) := by simpa [Array.getElem?_eq_getElem hlt] using h3
  show (W.heap.modify s _)[s]? = _
  rw [Array.getElem?_eq_getElem (by simpa using hlt), Array.getElem_modify_self, h']
  rfl
theorem StVS.putf {W : World} {B s mb : Nat} {t : Tr} {S : ChsVS} {cnt low : Int} {k : Nat} (h : StVS W B s mb t S cnt low k) (key : List UInt8) : ¬ PutFVS mb (valSVS key S) s := by
  rintro (e | hi)
  · exact h.ne e
  · unfold valSVS at hi
    cases e : getB key S with
    | none => rw [e] at hi; simp [Value.ownBlock] at hi
    | some y => rw [e] at hi; exact (h.apart (getB_mem e) hi).2 rfl
/-- Where add's append stands. -/
structure ApMVS (W1 W7 : World) (B : Nat) (S : ChsVS) (key : List UInt8) (v : VerVS) (g n cap : Nat) : Prop where
  own : W7.ownsRow B 65 3 (.slice (some ⟨g, 0, none⟩) n cap) (verSVS key S ++ [v]).length (((verSVS key S ++ [v]).map cellsVS).flatten)
  frm : Frm (fun i => (valSVS key S).ownBlock = some i) W1 W7
  at' : (valSVS key S).ownBlock = some g ∨ W1.heap.size ≤ g
/-- Behind the put. -/
def PutPVS (W1 W8 : World) (B s mb : Nat) (S : ChsVS) (cnt low : Int) (k : Nat) (key : List UInt8) (v : VerVS) : Prop :=
  ∃ t' v', StVS W8 B s mb t' (insB key (v', verSVS key S ++ [v]) S) cnt low (k + 1) ∧ Frm (PutFVS mb (valSVS key S)) W1 W8 ∧ ∀ i, v'.ownBlock = some i → (valSVS key S).ownBlock = some i ∨ W1.heap.size ≤ i
theorem row_snocVS {w : World} {base : Nat} {u : Value} {L : List VerVS} {m : VerVS} {N : Nat} (h : w.ownsRow base 65 3 u (N + 1) ((L.map cellsVS).flatten ++ cellsVS m)) (hN : N = L.length) : w.ownsRow base 65 3 u (L ++ [m]).length ((L ++ [m]).map cellsVS).flatten := by
  subst hN
  simpa using h
set_option maxRecDepth 100000 in
set_option maxHeartbeats 4000000 in
theorem addVS_any {W : World} {B s mb : Nat} {t : Tr} {S : ChsVS} {cnt low : Int} {k : Nat} (h : StVS W B s mb t S cnt low k) (hk : k ≤ 100000) (hc : 0 ≤ cnt ∧ cnt ≤ 1000000000) (key : List UInt8) (v : VerVS) (hB : B ≤ W.heap.size) :
    Calls Try.prog 41 #[.pointer (some ⟨s, 0, none⟩), str key, encVS v] W (AddPVS W B s mb S cnt low k key v (addCVS (verSVS key S) low v)) := by
  obtain ⟨a, b, c⟩ := v
  have HB := Lib.hid (below_alloc W (.cells #[.int .i64 a, str b, .bool c] 65))
  have hst0 := h.below HB.out
  obtain ⟨C, hC⟩ : ∃ C, C = addCVS (verSVS key S) low (a, b, c) := ⟨_, rfl⟩
  rw [← hC]
  unfold addCVS at hC
  dsimp only at hC
  by_cases h1 : a < 1
  · rw [if_pos (.inl h1)] at hC
    subst hC
    clear h hst0
    go_enter Try.func41, Try.ntmps41
    go_wp2_with fail
    go_ret
    exact ⟨rfl, fun _ => HB.out, fun h => absurd h (by decide)⟩
  by_cases h2 : 1099511627776 < a
  · rw [if_pos (.inr h2)] at hC
    subst hC
    clear h hst0
    go_enter Try.func41, Try.ntmps41
    go_wp2_with fail
    go_ret
    exact ⟨rfl, fun _ => HB.out, fun h => absurd h (by decide)⟩
  rw [if_neg (by rintro (h | h) <;> omega)] at hC
  obtain ⟨L, hL⟩ : ∃ L, L = lastTVS (verSVS key S) := ⟨_, rfl⟩
  have CL : Hid (∀ n, Calls Try.prog 18 #[.pointer (some ⟨s, 0, none⟩), str key] ((W.alloc (.cells #[.int .i64 a, str b, .bool c] 65)).drewN n) fun e w' => e = .returned (.int .i64 L) ∧ w' = (W.alloc (.cells #[.int .i64 a, str b, .bool c] 65)).drewN n) :=
    Lib.hid (fun n => (lastVS_any (hst0.drewN n) (by omega) key).mono (by rintro e w' ⟨rfl, rfl⟩; exact ⟨by rw [hL], rfl⟩))
  rw [← hL] at hC
  have HL := Lib.hid hL
  have HST := Lib.hid hst0
  have HBK := Lib.hid (fun i => h.blk i)
  have HH := Lib.hid h
  obtain ⟨c0, _, c2, _⟩ := hst0.cells
  by_cases h3 : a ≤ L
  · rw [if_pos (.inl h3)] at hC
    subst hC
    clear h hst0 hL
    go_enter Try.func41, Try.ntmps41
    go_wp2_with fail
    go_quiet ((go_at_call 18; exact Calls.quiet_of_same (CL.out _)))
    go_wp2_with fail
    go_ret
    exact ⟨rfl, fun _ => Below.drewsN HB.out _, fun h => absurd h (by decide)⟩
  by_cases h4 : a < low
  · rw [if_pos (.inr h4)] at hC
    subst hC
    clear h hst0 hL
    go_enter Try.func41, Try.ntmps41
    go_wp2_with fail
    go_quiet ((go_at_call 18; exact Calls.quiet_of_same (CL.out _)))
    go_wp2_with fail
    go_ret
    exact ⟨rfl, fun _ => Below.drewsN HB.out _, fun h => absurd h (by decide)⟩
  rw [if_neg (by rintro (h | h) <;> omega)] at hC
  subst hC
  have HRS : Hid (RisT (timesVS (verSVS key S ++ [(a, b, c)]))) := Lib.hid (last_risVS (h.chain key).2.1 (by rw [← hL]; show L < a; omega))
  clear h hst0 hL
  go_enter Try.func41, Try.ntmps41
  go_wp2_with fail
  go_quiet ((go_at_call 18; exact Calls.quiet_of_same (CL.out _)))
  have HST1 := Lib.hid (HST.out.drewN nq)
  have HB1 := Lib.hid (Below.drewsN HB.out nq)
  have HX1 : Hid (((W.alloc (.cells #[.int .i64 a, str b, .bool c] 65)).drewN nq).heap[W.heap.size]? = some (.cells (cellsVS (a, b, c)).toArray 65 (0, 0))) := Lib.hid (heap_alloc_new W _)
  have HZ1 : Hid (((W.alloc (.cells #[.int .i64 a, str b, .bool c] 65)).drewN nq).heap.size = W.heap.size + 1) := Lib.hid (by simp)
  clear CL c0 c2 HST HB
  generalize (W.alloc (.cells #[.int .i64 a, str b, .bool c] 65)).drewN nq = W1 at *
  obtain ⟨c0, _, _, _⟩ := HST1.out.cells
  have CG := Lib.hid (getSVS_any HST1.out key)
  obtain ⟨V, hV⟩ : ∃ V, V = valSVS key S := ⟨_, rfl⟩
  obtain ⟨z, hz⟩ : ∃ z, z = (getB key S).isSome := ⟨_, rfl⟩
  rw [← hV] at CG
  rw [← hz] at CG
  have HV := Lib.hid hV
  clear hV hz
  go_wp2_with fail
  refine CG.out.mono ?_
  rintro e w' ⟨rfl, rfl⟩
  obtain ⟨i0, hi, hz0, hz1, hz2⟩ := info_parts infoVS
  obtain ⟨N, hN⟩ : ∃ N, N = (verSVS key S).length := ⟨_, rfl⟩
  have hNk : N ≤ 100000 := by have := (HST1.out.chain key).2.2; omega
  have HN0 := Lib.hid hN
  clear hN
  have HKP : Hid (∀ W', Frm (PutFVS mb V) W1 W' → W'.cell? ⟨s, 0, none⟩ = some (.pointer (some ⟨mb, 0, none⟩)) ∧ W'.cell? ⟨W.heap.size, 0, none⟩ = some (.int .i64 a) ∧ W'.cell? ⟨W.heap.size, 1, none⟩ = some (str b) ∧ W'.cell? ⟨W.heap.size, 2, none⟩ = some (.bool c)) := Lib.hid (fun W' hf => by
    have e1 : W'.heap[s]? = W1.heap[s]? := hf.block s HST1.out.slt (by rw [HV.out]; exact HST1.out.putf key)
    have e2 : W'.heap[W.heap.size]? = W1.heap[W.heap.size]? := hf.block _ (by rw [HZ1.out]; omega) (fun hp => by
      have := (HBK.out _ (valSVS_blk (s := s) (key := key) (S := S) (by rw [← HV.out]; exact hp))).2
      omega)
    rw [HX1.out] at e2
    rw [HST1.out.box] at e1
    exact ⟨by simp [World.cell?, e1], by simp [World.cell?, e2, cellsVS], by simp [World.cell?, e2, cellsVS], by simp [World.cell?, e2, cellsVS]⟩)
  have HS0 := Lib.hid (HKP.out W1.drew (Frm.of_below (Below.drewsN (Below.refl _ _) 1)))
  have HA : Hid (Frm (PutFVS mb V) W1 (W1.alloc (.cells #[.int .i64 a, str b, .bool c] 65)).drew) := Lib.hid (Frm.of_below (Below.drewsN (below_alloc W1 _) 1))
  have HO : Hid (W1.drew.ownsRow B 65 3 V N ((verSVS key S).map cellsVS).flatten) := Lib.hid (by rw [HN0.out, HV.out]; exact (HST1.out.chain key).1)
  have hB1 : B ≤ W1.heap.size := by have := HZ1.out; omega
  obtain ⟨Z, hZ⟩ : ∃ Z, Z = newT (str key) t := ⟨_, rfl⟩
  have CP : Hid (∀ W7 g cap, Hid (ApMVS W1 W7 B S key (a, b, c) g (N + 1) cap) → Calls Try.prog 46 #[.pointer (some ⟨mb, 0, none⟩), str key, .slice (some ⟨g, 0, none⟩) (N + 1) cap] W7 fun e W8 => e = .returned (.bool Z) ∧ Hid (PutPVS W1 W8 B s mb S cnt low k key (a, b, c))) :=
    Lib.hid (fun W7 g cap H => (putSVS_any HST1.out (by omega) key (verSVS key S ++ [(a, b, c)]) g (N + 1) cap H.out.own H.out.frm HRS.out (by simp; exact (HST1.out.chain key).2.2) H.out.at').mono (by
      rintro e W8 ⟨rfl, h1, h2⟩
      exact ⟨by rw [hZ], Lib.hid ⟨_, _, h1, h2, fun i hi => by
        have : g = i := by simpa [Value.ownBlock] using hi
        subst this
        exact H.out.at'⟩⟩))
  clear hZ c0
  have d0 := HS0.out.1
  have d1 := HS0.out.2.1
  have d2 := HS0.out.2.2.1
  have d3 := HS0.out.2.2.2
  have HD := Lib.hid (And.intro d0 (And.intro d1 (And.intro d2 d3)))
  go_wp2_with fail
  go_region_held3 (fun W' => W'.cell? ⟨s, 0, none⟩ = some (.pointer (some ⟨mb, 0, none⟩)) ∧ W'.cell? ⟨W.heap.size, 0, none⟩ = some (.int .i64 a) ∧ W'.cell? ⟨W.heap.size, 1, none⟩ = some (str b) ∧ W'.cell? ⟨W.heap.size, 2, none⟩ = some (.bool c))
    (first
      | (exact HD.out)
      | (exact HKP.out _ HA.out)
      | (exact HKP.out _ HN7.out)
      | (exact HKP.out _ HN8.out)
      | go_keep)
    ((first
      | (refine step_appendL (by rfl) _ _ 40 (by rfl) (size := 3) (bytes := 32) Try.underlying40 hi hz0 hz1 hz2 rfl (by decide) (by rfl) (World.ownsRow.alloc HO.out _) [.int .i64 a, str b, .bool c] (by rfl) (heap_alloc_new _ _) rfl ?_ ?_ ?_ ?_ ?_
         · intro u hu
           simp only [List.mem_cons, List.not_mem_nil, or_false] at hu
           rcases hu with rfl | rfl | rfl <;> rfl
         · unfold maxLen; omega
         · omega
         · simp; omega
         intro g7 cap7 w7 ho7 hg7 hat7
         have HN : Hid (ApMVS W1 w7 B S key (a, b, c) g7 (N + 1) cap7) := Lib.hid ⟨row_snocVS ho7 HN0.out, (Frm.of_below (Below.drewsN (below_alloc W1 _) 1)).trans (Frm.of_grown hg7 (fun k hk => by rw [← HV.out]; exact hk)) (fun i _ hi => hi), by
           rcases hat7 with hat7 | hat7
           · exact .inl (by rw [← HV.out]; exact hat7)
           · right; rw [hat7]; simp⟩
         have HN7 : Hid (Frm (PutFVS mb V) W1 w7) := Lib.hid (HN.out.frm.mono (fun i _ hi => .inr (by rw [HV.out]; exact hi)))
         clear ho7 hg7 hat7)
      | (go_at_call 46; refine (CP.out _ _ _ HN).mono ?_; rintro e w8 ⟨rfl, HP8⟩; have HN8 : Hid (Frm (PutFVS mb V) W1 w8) := Lib.hid (by rw [HV.out]; obtain ⟨_, _, _, hf, _⟩ := HP8.out; exact hf))
      | fail))
  all_goals
    clear d0 d1 d2 d3 HD HS0 HA HO CP HKP HX1
    obtain ⟨t', v', hst8, hf8, hnew8⟩ := HP8.out
    obtain ⟨_, c1, _, cf⟩ := hst8.cells
    have cf1 := cf 1
    have HST8 := Lib.hid hst8
    have HF8 := Lib.hid (And.intro hf8 hnew8)
    have hw : IntKind.i64.wrap (cnt + 1) = cnt + 1 := IntWalk.i64_in _ (by omega)
    have hc1 : 0 ≤ cnt := hc.1
    have hc2 : cnt ≤ 1000000000 := hc.2
    clear hst8 hf8 hnew8 cf HP8 hc
    go_wp2_with fail
    go_ret
    obtain ⟨s1, s2⟩ := HST8.out.set (cnt' := cnt + 1)
    refine ⟨rfl, fun h => absurd rfl h, fun _ => ⟨t', v', s1, ?_, ?_⟩⟩
    · refine ((Frm.of_below HB1.out).trans HF8.out.1 (fun i _ hi => valSVS_blk hi)).trans s2 (fun i _ hi => .inl hi)
    · rintro i (rfl | rfl | ⟨x, hx, hi⟩)
      · exact .inl (.inl rfl)
      · exact .inl (.inr (.inl rfl))
      · rcases insB_mem HST1.out.rs x hx with rfl | ⟨hx, _⟩
        · rcases HF8.out.2 i hi with h | h
          · exact .inl (valSVS_blk (.inr h))
          · right; have := HZ1.out; omega
        · exact .inl (.inr (.inr ⟨x, hx, hi⟩))
theorem putVS_st {W : World} {B s mb : Nat} {t : Tr} {S : ChsVS} {cnt low : Int} {k : Nat} (h : StVS W B s mb t S cnt low k) (hk : k ≤ 100000) (hc : 0 ≤ cnt ∧ cnt ≤ 1000000000) (key : List UInt8) (at1 : Int) (x : (List UInt8)) (hB : B ≤ W.heap.size) :
    Calls Try.prog 11 #[.pointer (some ⟨s, 0, none⟩), .int .i64 at1, str key, str x] W (AddPVS W B s mb S cnt low k key (at1, x, false) (addCVS (verSVS key S) low (at1, x, false))) := by
  have C := Lib.hid (addVS_any h hk hc key (at1, x, false) hB)
  obtain ⟨c, hcc⟩ : ∃ c, c = addCVS (verSVS key S) low (at1, x, false) := ⟨_, rfl⟩
  rw [← hcc] at C ⊢
  clear h hcc
  go_enter Try.func11, Try.ntmps11
  go_wp2_with fail
  refine C.out.mono ?_
  rintro e w5 ⟨rfl, h1, h2⟩
  have HX := Lib.hid (And.intro h1 h2)
  clear h1 h2 C
  go_wp2_with fail
  go_ret
  exact ⟨rfl, HX.out.1, HX.out.2⟩
theorem newVS_st (W : World) : Calls Try.prog 9 #[] W fun e W' => ∃ s mb, e = .returned (.pointer (some ⟨s, 0, none⟩)) ∧ StVS W' W.heap.size s mb .nil [] 0 0 0 ∧ Below W.heap.size W W' ∧ W.heap.size ≤ W'.heap.size := by
  have CN := Lib.hid (newVS_any W)
  go_enter Try.func9, Try.ntmps9
  go_wp2_with fail
  refine CN.out.mono ?_
  rintro e w1 ⟨b, rfl, hb, hm, hb1⟩
  have H1 := Lib.hid (And.intro hb (And.intro hm hb1))
  clear hb hm hb1 CN
  go_wp2_with fail
  go_ret
  obtain ⟨h1, h2, h3⟩ := H1.out
  have hb2 := below_alloc w1 (.cells #[.pointer (some ⟨b, 0, none⟩), .int .i64 0, .int .i64 0] 71)
  have h4 := h3.trans (hb2.mono h3.size)
  exact ⟨_, b, rfl, ⟨heap_alloc_new w1 _, h2.below hb2, trivial, rfl, by simp [RisB], by simp, by simp, by simp, ⟨by simp [ht], by simp, by simp⟩, h3.size, by omega⟩, h4, h4.size⟩
theorem getVS_st {W : World} {B s mb : Nat} {t : Tr} {S : ChsVS} {cnt low : Int} {k : Nat} (h : StVS W B s mb t S cnt low k) (hk : k ≤ 100000) (key : List UInt8) (at1 : Int) :
    Calls Try.prog 27 #[.pointer (some ⟨s, 0, none⟩), str key, .int .i64 at1] W fun e W' => e = seenEVS (seenVS (verSVS key S) at1) ∧ Below W.heap.size W W' := by
  have CG := Lib.hid (getSVS_any h key)
  obtain ⟨c0, _, _, _⟩ := h.cells
  obtain ⟨ho, hr, hl⟩ := h.chain key
  have CS := Lib.hid (seenVS_any (valSVS key S) (verSVS key S) at1 W (rd_rowVS ho) hr (by omega))
  obtain ⟨v, hvv⟩ : ∃ v, v = valSVS key S := ⟨_, rfl⟩
  obtain ⟨z, hz⟩ : ∃ z, z = (getB key S).isSome := ⟨_, rfl⟩
  obtain ⟨⟨r1, r2⟩, hrr⟩ : ∃ r : (List UInt8) × Bool, r = ((seenVS (verSVS key S) at1).getD [], (seenVS (verSVS key S) at1).isSome) := ⟨_, rfl⟩
  have er : seenEVS (seenVS (verSVS key S) at1) = .returned (.tuple #[str r1, .bool r2]) := by
    unfold seenEVS
    rw [show r1 = (seenVS (verSVS key S) at1).getD [] from congrArg Prod.fst hrr, show r2 = (seenVS (verSVS key S) at1).isSome from congrArg Prod.snd hrr]
  rw [← hvv] at CG CS
  rw [← hz] at CG
  rw [er] at CS ⊢
  clear h ho hvv hz hr hl er hrr
  go_enter Try.func27, Try.ntmps27
  go_wp2_with fail
  refine CG.out.mono ?_
  rintro e w' ⟨rfl, rfl⟩
  go_wp2_with fail
  refine CS.out.mono ?_
  rintro e w' ⟨rfl, hb⟩
  have HX := Lib.hid hb
  clear hb CS CG c0
  go_wp2_with fail
  go_ret2
  exact ⟨rfl, HX.out⟩
theorem countVS_st {W : World} {B s mb : Nat} {t : Tr} {S : ChsVS} {cnt low : Int} {k : Nat} (h : StVS W B s mb t S cnt low k) : Calls Try.prog 20 #[.pointer (some ⟨s, 0, none⟩)] W fun e W' => e = .returned (.int .i64 cnt) ∧ W = W' := by
  obtain ⟨_, c1, _, _⟩ := h.cells
  clear h
  go_enter Try.func20, Try.ntmps20
  go_wp2_with fail
  go_ret
  exact ⟨rfl, rfl⟩
/-- How many are dropped. -/
def dropNVS (l : List VerVS) (low : Int) : Nat := match upN (timesVS l) low with
  | 0 => 0
  | n + 1 => match l[n]? with
    | some v => if v.2.2 = true then n + 1 else n
    | none => 0
set_option maxHeartbeats 1000000 in
theorem droppedVS_any (v : Value) (l : List VerVS) (low : Int) (w : World) (hv : RdVS w v l) (hr : RisT (timesVS l)) (hl : l.length ≤ 1000000) :
    Calls Try.prog 44 #[v, .int .i64 low] w fun e w' => e = .returned (.int .i64 (dropNVS l low : Int)) ∧ Below w.heap.size w w' := by
  have C := Lib.hid (upVS_any v l low w hv hr hl)
  obtain ⟨av, cv, rfl, _⟩ := hv.form
  have HV := Lib.hid hv
  have hNl : upN (timesVS l) low ≤ l.length := Nat.le_trans (upN_le _ _) (by unfold timesVS; simp)
  obtain ⟨D, hD⟩ : ∃ D, D = dropNVS l low := ⟨_, rfl⟩
  rw [← hD]
  unfold dropNVS at hD
  obtain ⟨N, hN⟩ : ∃ N, N = upN (timesVS l) low := ⟨_, rfl⟩
  rw [← hN] at C hNl hD
  clear hv hr hN
  cases N with
  | zero =>
    dsimp only at hD
    subst hD
    go_enter Try.func44, Try.ntmps44
    go_wp2_with fail
    refine C.out.mono ?_
    rintro e w5 ⟨rfl, hb5⟩
    have HX := Lib.hid hb5
    clear hb5 C
    go_wp2_with fail
    go_ret
    exact ⟨rfl, HX.out⟩
  | succ n =>
    have hln : n < l.length := by omega
    dsimp only at hD
    rw [List.getElem?_eq_getElem hln] at hD
    dsimp only at hD
    obtain ⟨bA, oA, rfl, c0, c1, c2⟩ := HV.out.get hln
    obtain ⟨x, hx⟩ : ∃ x, x = l[n] := ⟨_, rfl⟩
    rw [← hx] at c0 c1 c2 hD
    obtain ⟨a, b, c⟩ := x
    dsimp only at c0 c1 c2 hD
    have hlA := World.block_lt_of_cell? w _ c0
    have HC3 : Hid (∀ W, Below w.heap.size w W → W.cell? ⟨bA, oA + n * 3 + 2, none⟩ = some (.bool c)) := Lib.hid (fun W h => (h.cell (p := ⟨bA, oA + n * 3 + 2, none⟩) hlA).trans c2)
    obtain ⟨M, hM⟩ : ∃ M : Nat, M = n + 1 := ⟨_, rfl⟩
    rw [← hM] at C hD
    have hz : (0 : Int) < (M : Int) := by omega
    have hz' : decide ((0 : Int) < (M : Int)) = true := by simp; omega
    have tm : IntKind.i64.wrap ((M : Int) - 1) = (n : Int) := by rw [show (M : Int) - 1 = (n : Int) by omega]; exact IntWalk.i64_in _ (by omega)
    have tm2 : (M : Int) - 1 = (n : Int) := by omega
    have g4 : (n : Int) < (l.length : Int) := by omega
    have g5 : (0 : Int) ≤ (n : Int) := by omega
    clear hx c0 c1 c2 hlA HV hM hNl
    cases c with
    | true =>
      rw [if_pos rfl] at hD
      subst hD
      go_enter Try.func44, Try.ntmps44
      go_wp2_with fail
      refine C.out.mono ?_
      rintro e w5 ⟨rfl, hb5⟩
      have d2 := HC3.out w5 hb5
      have HX := Lib.hid hb5
      clear hb5 C
      go_wp2_with fail
      go_ret
      exact ⟨rfl, HX.out⟩
    | false =>
      rw [if_neg (by decide)] at hD
      subst hD
      go_enter Try.func44, Try.ntmps44
      go_wp2_with fail
      refine C.out.mono ?_
      rintro e w5 ⟨rfl, hb5⟩
      have d2 := HC3.out w5 hb5
      have HX := Lib.hid hb5
      clear hb5 C
      go_wp2_with fail
      go_ret
      exact ⟨rfl, HX.out⟩
end Go.Proofs.Ytdlacjdddjebgaa
