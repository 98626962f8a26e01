/- rows: object, PutSub, PutFeed. -/
import Derived.Test.YtjnejbeeoepdnaaDoorRwObj
import Derived.Test.YtjnejbeeoepdnaaDoorJValue
import Derived.Test.YtjnejbeeoepdnaaDoorKeys
import Derived.Deep.RegionHeld3
namespace Go.Proofs.YtjnejbeeoepdnaaDoor
open Go.RowKit

/-- An object's text, or why not. -/
def objR (ms : List MemT) : List UInt8 × Int := if mayV (.mk 7 0 [] [] ms) 64 = true then (prV (.mk 7 0 [] [] ms), 0) else ([], 4)
set_option maxRecDepth 100000 in
set_option maxHeartbeats 2000000 in
theorem robject_any {F : Nat → Prop} {w : World} {am : Option Addr} {lm cm : Nat} {ms : List MemT} {rows : List (List Value)} (h1 : RdFB F 6 w (.slice am lm cm) rows) (h2 : RdM w F ms rows)
    (hl : mayV (.mk 7 0 [] [] ms) 64 = true → (prV (.mk 7 0 [] [] ms)).length ≤ 1000000) (ht : TabJ w.heap.size w) :
    Calls Tryd.prog 18 #[.slice am lm cm] w fun e w' => e = .returned (.tuple #[str (objR ms).1, .int .i64 (objR ms).2]) ∧ Below w.heap.size w w' := by
  unfold objR
  cases hm : mayV (.mk 7 0 [] [] ms) 64 with
  | true => rw [if_pos rfl]; exact object_yes h1 h2 hm (hl hm) ht
  | false =>
    rw [if_neg (by simp)]
    have C1 := Lib.hid (bObject_any am lm cm w)
    have CP : Hid (∀ W, Below w.heap.size w W → Calls Tryd.prog 39 #[.agg #[.int .i64 7, .int .i64 0, str [], .slice none 0 0, .slice am lm cm]] W fun e w' => e = .returned (.tuple #[.slice none 0 0, .int .i64 4]) ∧ Below W.heap.size W w') := Lib.hid (fun W hb =>
      print_no (F := F) (v := .mk 7 0 [] [] ms) (RdJ.mk0 (v := .mk 7 0 [] [] ms) (RdFB.nil _ _ _) (by unfold RdL; trivial) (h1.frm (Frm.of_below (F := fun _ => False) hb) (fun _ _ e => e)) (h2.up hb)) hm)
    clear h1 h2 hm ht hl
    go_enter Tryd.func18, Tryd.ntmps18
    go_wp2_with fail
    refine C1.out.mono ?_
    rintro e w1 ⟨rfl, hb1⟩
    have HB1 := Lib.hid hb1
    have CP1 := Lib.hid (CP.out w1 hb1)
    clear hb1 C1
    go_wp2_with fail
    refine CP1.out.mono ?_
    rintro e w2 ⟨rfl, hb2⟩
    have HB2 := Lib.hid (HB1.out.trans (hb2.mono HB1.out.size))
    have hconv := bt.toString Tryd.underlying9 (Rd.nil w2)
    clear hb2 CP1
    go_wp2_with fail
    go_ret2
    exact ⟨rfl, HB2.out⟩
set_option maxHeartbeats 1000000 in
theorem bNumber_any (nm : List UInt8) (n : Int) (w : World) : Calls Tryd.prog 19 #[str nm, .int .i64 n] w fun e w' => e = .returned (.agg #[str nm, .int .i64 4, .int .i64 n, str [], .slice none 0 0, .slice none 0 0]) ∧ Below w.heap.size w w' := by
  go_enter Tryd.func19, Tryd.ntmps19
  go_wp2_with fail
  exact bodyPost_ret (v := .agg #[str nm, .int .i64 4, .int .i64 n, str [], .slice none 0 0, .slice none 0 0]) (by simp [results, Tryd.results19, go_sem]) rfl ⟨rfl, below_alloc _ _⟩
set_option maxHeartbeats 1000000 in
theorem bText_any (nm s : List UInt8) (w : World) : Calls Tryd.prog 20 #[str nm, str s] w fun e w' => e = .returned (.agg #[str nm, .int .i64 5, .int .i64 0, str s, .slice none 0 0, .slice none 0 0]) ∧ Below w.heap.size w w' := by
  go_enter Tryd.func20, Tryd.ntmps20
  go_wp2_with fail
  exact bodyPost_ret (v := .agg #[str nm, .int .i64 5, .int .i64 0, str s, .slice none 0 0, .slice none 0 0]) (by simp [results, Tryd.results20, go_sem]) rfl ⟨rfl, below_alloc _ _⟩
theorem RdFB.lit6 {F : Nat → Prop} {sz : Nat} {w : World} {b n : Nat} {T : TypeId} (L : List (List Value)) (hr : ∀ r ∈ L, r.length = sz) (h : w.heap[b]? = some (.cells L.flatten.toArray T (0, 0))) (hn : n = L.length) (hl : L.length ≤ 9223372036854775807) (hF : F b) : RdFB F sz w (.slice (some ⟨b, 0, none⟩) n n) L := by
  obtain ⟨a, cap, hv, h1, h2, h3, h4⟩ := RdF.lit (w := w) (b := b) (n := n) (T := T) L hr h hn hl
  refine ⟨a, cap, hv, h1, h2, h3, fun hne => ?_⟩
  obtain ⟨b', off, ha, hc⟩ := h4 hne
  simp only [Value.slice.injEq] at hv
  rw [ha] at hv
  simp only [Option.some.injEq, Addr.mk.injEq, and_true] at hv
  obtain ⟨⟨rfl, rfl⟩, _⟩ := hv
  exact ⟨b, 0, ha, hF, hc⟩
def folderN : List UInt8 := [102, 111, 108, 100, 101, 114]
def subMs (s : List UInt8) : List MemT := [(folderN, .mk 5 0 s [] [])]
def putSubR (s : List UInt8) : List UInt8 × Int := if s ≠ [] ∧ nameB s = false then ([], 4) else objR (subMs s)
theorem objT_len {s : List UInt8} (h : txF s = true) : (prV (.mk 5 0 s [] [])).length ≤ 60000 := quo_len s h
theorem sub_len {s : List UInt8} (h : mayV (.mk 7 0 [] [] (subMs s)) 64 = true) : (prV (.mk 7 0 [] [] (subMs s))).length ≤ 1000000 := by
  have hx : txF s = true := by
    simp only [subMs, mayV, mayM, fitV, Bool.and_eq_true] at h
    simp_all
  have h1 := quo_len s hx
  have h2 : (quo folderN).length = 8 := by decide
  have e1 : prV (.mk 5 0 s [] []) = quo s := rfl
  have e : prV (.mk 7 0 [] [] (subMs s)) = 123 :: ((prU (subMs s)).drop 1 ++ [125]) := rfl
  rw [e]
  simp [subMs, prU, e1, h2]
  omega
set_option maxRecDepth 100000 in
set_option maxHeartbeats 2000000 in
theorem putSub_any (s : List UInt8) (w : World) (hl : s.length ≤ 9223372036854775807) (ht : TabJ w.heap.size w) : Calls Tryd.prog 9 #[str s] w fun e w' => e = .returned (.tuple #[str (putSubR s).1, .int .i64 (putSubR s).2]) ∧ Below w.heap.size w w' := by
  have CN := Lib.hid (fun W => name_any s W (by omega))
  have HT := Lib.hid ht
  have CT := Lib.hid (bText_any [102, 111, 108, 100, 101, 114] s w)
  have CO : Hid (∀ W, Below w.heap.size w W → Calls Tryd.prog 18 #[.slice (some ⟨W.heap.size, 0, none⟩) 1 1] (W.alloc (.cells #[str [102, 111, 108, 100, 101, 114], .int .i64 5, .int .i64 0, str s, .slice none 0 0, .slice none 0 0] 56)) fun e w' => e = .returned (.tuple #[str (objR (subMs s)).1, .int .i64 (objR (subMs s)).2]) ∧ Below W.heap.size W w') := Lib.hid (fun W hb => by
    have hb2 := below_alloc W (.cells #[str [102, 111, 108, 100, 101, 114], .int .i64 5, .int .i64 0, str s, .slice none 0 0, .slice none 0 0] 56)
    refine (robject_any (F := fun _ => True) (ms := subMs s) (rows := [[str [102, 111, 108, 100, 101, 114], .int .i64 5, .int .i64 0, str s, .slice none 0 0, .slice none 0 0]]) (RdFB.lit6 _ (by simp) (heap_alloc_new W _) rfl (by simp) trivial) (by
      unfold subMs RdM
      refine ⟨⟨_, rfl, plainJ _ _ 5 0 s⟩, ?_⟩
      unfold RdM
      trivial) sub_len (fun w' h' => HT.out w' ((hb.trans (hb2.mono hb.size)).trans (h'.mono (Nat.le_trans hb.size hb2.size))))).mono ?_
    rintro e w' ⟨rfl, h'⟩
    exact ⟨rfl, hb2.trans (h'.mono hb2.size)⟩)
  clear ht
  by_cases h0 : s = []
  · subst h0
    have HE : Hid (putSubR [] = objR (subMs [])) := Lib.hid (by unfold putSubR; rw [if_neg (by simp)])
    rw [HE.out]
    have g1 : (([] : List UInt8) != []) = false := rfl
    obtain ⟨R1, hR1⟩ : ∃ R1, R1 = (objR (subMs [])).1 := ⟨_, rfl⟩
    obtain ⟨R2, hR2⟩ : ∃ R2, R2 = (objR (subMs [])).2 := ⟨_, rfl⟩
    rw [← hR1, ← hR2] at CO
    rw [← hR1, ← hR2]
    clear HE hR1 hR2
    go_enter Tryd.func9, Tryd.ntmps9
    go_wp2_with fail
    refine CT.out.mono ?_
    rintro e w1 ⟨rfl, hb1⟩
    have HB1 := Lib.hid hb1
    have CO1 := Lib.hid (CO.out w1 hb1)
    clear hb1 CT
    go_wp2_with fail
    refine CO1.out.mono ?_
    rintro e w2 ⟨rfl, hb2⟩
    have HX := Lib.hid (HB1.out.trans (hb2.mono HB1.out.size))
    clear hb2 CO1
    go_wp2_with fail
    go_ret2
    exact ⟨rfl, HX.out⟩
  · have g0 : (s == []) = false := by rw [beq_eq_false_iff_ne]; exact h0
    have g1 : (s != []) = true := by rw [bne_iff_ne]; exact h0
    cases hn : nameB s with
    | false =>
      have HE : Hid (putSubR s = ([], 4)) := Lib.hid (by unfold putSubR; rw [if_pos ⟨h0, hn⟩])
      rw [HE.out]
      rw [hn] at CN
      clear HE hn h0
      go_enter Tryd.func9, Tryd.ntmps9
      go_wp2_with (go_at_call 27; refine (CN.out _).mono ?_; rintro e w' ⟨rfl, rfl⟩)
      go_ret2
      exact ⟨rfl, Below.refl _ _⟩
    | true =>
      have HE : Hid (putSubR s = objR (subMs s)) := Lib.hid (by unfold putSubR; rw [if_neg (by rw [hn]; simp)])
      rw [HE.out]
      rw [hn] at CN
      obtain ⟨R1, hR1⟩ : ∃ R1, R1 = (objR (subMs s)).1 := ⟨_, rfl⟩
      obtain ⟨R2, hR2⟩ : ∃ R2, R2 = (objR (subMs s)).2 := ⟨_, rfl⟩
      rw [← hR1, ← hR2] at CO
      rw [← hR1, ← hR2]
      clear HE hR1 hR2 hn h0
      go_enter Tryd.func9, Tryd.ntmps9
      go_wp2_with (go_at_call 27; refine (CN.out _).mono ?_; rintro e w' ⟨rfl, rfl⟩)
      refine CT.out.mono ?_
      rintro e w1 ⟨rfl, hb1⟩
      have HB1 := Lib.hid hb1
      have CO1 := Lib.hid (CO.out w1 hb1)
      clear hb1 CT
      go_wp2_with fail
      refine CO1.out.mono ?_
      rintro e w2 ⟨rfl, hb2⟩
      have HX := Lib.hid (HB1.out.trans (hb2.mono HB1.out.size))
      clear hb2 CO1
      go_wp2_with fail
      go_ret2
      exact ⟨rfl, HX.out⟩
end Go.Proofs.YtjnejbeeoepdnaaDoor
