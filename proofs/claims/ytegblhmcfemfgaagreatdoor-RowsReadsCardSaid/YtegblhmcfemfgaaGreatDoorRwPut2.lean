import Derived.Test.YtegblhmcfemfgaaGreatDoorRwObj
import Derived.Test.YtegblhmcfemfgaaGreatDoorJValue
import Derived.Test.YtegblhmcfemfgaaGreatDoorKeys
import Derived.Deep.RegionHeld3
import Derived.Test.YtegblhmcfemfgaaGreatDoorWTake
import Derived.Test.YtegblhmcfemfgaaGreatDoorBx
import Derived.Test.YtegblhmcfemfgaaGreatDoorJParM
set_option maxRecDepth 100000
set_option maxHeartbeats 2000000
namespace Go.Proofs.YtegblhmcfemfgaaGreatDoor
open Go.RowKit
def objR (ms : List MemT) : List UInt8 × Int := if mayV (.mk 7 0 [] [] ms) 64 = true then (prV (.mk 7 0 [] [] ms), 0) else ([], 4)
theorem robject_any {F : Nat → Prop} {w : World} {am : Option Addr} {lm cm : Nat} {ms : List MemT} {rows : List (List Value)} (h1 : RdFB F 6 w (.slice am lm cm) rows) (h2 : RdM w F ms rows)
 (hl : mayV (.mk 7 0 [] [] ms) 64 = true → (prV (.mk 7 0 [] [] ms)).length ≤ 1000000) (ht : TabJ w.heap.size w) :
 Calls Tryz.prog 26 #[.slice am lm cm] w fun e w' => e = .returned (.tuple #[str (objR ms).1, .int .i64 (objR ms).2]) ∧ Below w.heap.size w w' := by
 unfold objR
 cases hm : mayV (.mk 7 0 [] [] ms) 64 with
 | true => rw [if_pos rfl]; exact object_yes h1 h2 hm (hl hm) ht
 | false =>
  rw [if_neg (by simp)]
  have C1 := Lib.hid (bObject_any am lm cm w)
  have CP : Hid (∀ W, Below w.heap.size w W → Calls Tryz.prog 55 #[.agg #[.int .i64 7, .int .i64 0, str [], .slice none 0 0, .slice am lm cm]] W fun e w' => e = .returned (.tuple #[.slice none 0 0, .int .i64 4]) ∧ Below W.heap.size W w') := Lib.hid (fun W hb =>
   print_no (F := F) (v := .mk 7 0 [] [] ms) (RdJ.mk0 (v := .mk 7 0 [] [] ms) (RdFB.nil _ _ _) (by unfold RdL; trivial) (h1.frm (Frm.of_below (F := fun _ => False) hb) (fun _ _ e => e)) (h2.up hb)) hm)
  clear h1 h2 hm ht hl
  go_enter Tryz.func26, Tryz.ntmps26
  go_wp2_with fail
  refine C1.out.mono ?_
  rintro e w1 ⟨rfl, hb1⟩
  have HB1 := Lib.hid hb1
  have CP1 := Lib.hid (CP.out w1 hb1)
  clear hb1 C1
  go_wp2_with fail
  refine CP1.out.mono ?_
  rintro e w2 ⟨rfl, hb2⟩
  have HB2 := Lib.hid (HB1.out.trans (hb2.mono HB1.out.size))
  have hconv := bt.toString Tryz.underlying9 (Rd.nil w2)
  clear hb2 CP1
  go_wp2_with fail
  go_ret2
  exact ⟨rfl, HB2.out⟩
theorem bNumber_any (nm : List UInt8) (n : Int) (w : World) : Calls Tryz.prog 27 #[str nm, .int .i64 n] w fun e w' => e = .returned (.agg #[str nm, .int .i64 4, .int .i64 n, str [], .slice none 0 0, .slice none 0 0]) ∧ Below w.heap.size w w' := by
 go_enter Tryz.func27, Tryz.ntmps27
 go_wp2_with fail
 exact bodyPost_ret (v := .agg #[str nm, .int .i64 4, .int .i64 n, str [], .slice none 0 0, .slice none 0 0]) (by simp [results, Tryz.results27, go_sem]) rfl ⟨rfl, below_alloc _ _⟩
theorem bText_any (nm s : List UInt8) (w : World) : Calls Tryz.prog 28 #[str nm, str s] w fun e w' => e = .returned (.agg #[str nm, .int .i64 5, .int .i64 0, str s, .slice none 0 0, .slice none 0 0]) ∧ Below w.heap.size w w' := by
 go_enter Tryz.func28, Tryz.ntmps28
 go_wp2_with fail
 exact bodyPost_ret (v := .agg #[str nm, .int .i64 5, .int .i64 0, str s, .slice none 0 0, .slice none 0 0]) (by simp [results, Tryz.results28, go_sem]) rfl ⟨rfl, below_alloc _ _⟩
theorem RdFB.lit6 {F : Nat → Prop} {sz : Nat} {w : World} {b n : Nat} {T : TypeId} (L : List (List Value)) (hr : ∀ r ∈ L, r.length = sz) (h : w.heap[b]? = some (.cells L.flatten.toArray T (0, 0))) (hn : n = L.length) (hl : L.length ≤ 9223372036854775807) (hF : F b) : RdFB F sz w (.slice (some ⟨b, 0, none⟩) n n) L := by
 obtain ⟨a, cap, hv, h1, h2, h3, h4⟩ := RdF.lit (w := w) (b := b) (n := n) (T := T) L hr h hn hl
 refine ⟨a, cap, hv, h1, h2, h3, fun hne => ?_⟩
 obtain ⟨b', off, ha, hc⟩ := h4 hne
 simp only [Value.slice.injEq] at hv
 rw [ha] at hv
 simp only [Option.some.injEq, Addr.mk.injEq, and_true] at hv
 obtain ⟨⟨rfl, rfl⟩, _⟩ := hv
 exact ⟨b, 0, ha, hF, hc⟩
def folderN : List UInt8 := [102, 111, 108, 100, 101, 114]
def subMs (s : List UInt8) : List MemT := [(folderN, .mk 5 0 s [] [])]
def putSubR (s : List UInt8) : List UInt8 × Int := if s ≠ [] ∧ nameB s = false then ([], 4) else objR (subMs s)
theorem sub_len {s : List UInt8} (h : mayV (.mk 7 0 [] [] (subMs s)) 64 = true) : (prV (.mk 7 0 [] [] (subMs s))).length ≤ 1000000 := by
 have hx : txF s = true := by
  simp only [subMs, mayV, mayM, fitV, Bool.and_eq_true] at h
  simp_all
 have h1 := quo_len s hx
 have h2 : (quo folderN).length = 8 := by decide
 have e1 : prV (.mk 5 0 s [] []) = quo s := rfl
 have e : prV (.mk 7 0 [] [] (subMs s)) = 123 :: ((prU (subMs s)).drop 1 ++ [125]) := rfl
 rw [e]
 simp [subMs, prU, e1, h2]
 omega
theorem putSub_any (s : List UInt8) (w : World) (hl : s.length ≤ 9223372036854775807) (ht : TabJ w.heap.size w) : Calls Tryz.prog 9 #[str s] w fun e w' => e = .returned (.tuple #[str (putSubR s).1, .int .i64 (putSubR s).2]) ∧ Below w.heap.size w w' := by
 have CN := Lib.hid (fun W => name_any s W (by omega))
 have HT := Lib.hid ht
 have CT := Lib.hid (bText_any [102, 111, 108, 100, 101, 114] s w)
 have CO : Hid (∀ W, Below w.heap.size w W → Calls Tryz.prog 26 #[.slice (some ⟨W.heap.size, 0, none⟩) 1 1] (W.alloc (.cells #[str [102, 111, 108, 100, 101, 114], .int .i64 5, .int .i64 0, str s, .slice none 0 0, .slice none 0 0] 74)) fun e w' => e = .returned (.tuple #[str (objR (subMs s)).1, .int .i64 (objR (subMs s)).2]) ∧ Below W.heap.size W w') := Lib.hid (fun W hb => by
  have hb2 := below_alloc W (.cells #[str [102, 111, 108, 100, 101, 114], .int .i64 5, .int .i64 0, str s, .slice none 0 0, .slice none 0 0] 74)
  refine (robject_any (F := fun _ => True) (ms := subMs s) (rows := [[str [102, 111, 108, 100, 101, 114], .int .i64 5, .int .i64 0, str s, .slice none 0 0, .slice none 0 0]]) (RdFB.lit6 _ (by simp) (heap_alloc_new W _) rfl (by simp) trivial) (by
   unfold subMs RdM
   refine ⟨⟨_, rfl, plainJ _ _ 5 0 s⟩, ?_⟩
   unfold RdM
   trivial) sub_len (fun w' h' => HT.out w' ((hb.trans (hb2.mono hb.size)).trans (h'.mono (Nat.le_trans hb.size hb2.size))))).mono ?_
  rintro e w' ⟨rfl, h'⟩
  exact ⟨rfl, hb2.trans (h'.mono hb2.size)⟩)
 clear ht
 by_cases h0 : s = []
 · subst h0
   have HE : Hid (putSubR [] = objR (subMs [])) := Lib.hid (by unfold putSubR; rw [if_neg (by simp)])
   rw [HE.out]
   have g1 : (([] : List UInt8) != []) = false := rfl
   obtain ⟨R1, hR1⟩ : ∃ R1, R1 = (objR (subMs [])).1 := ⟨_, rfl⟩
   obtain ⟨R2, hR2⟩ : ∃ R2, R2 = (objR (subMs [])).2 := ⟨_, rfl⟩
   rw [← hR1, ← hR2] at CO
   rw [← hR1, ← hR2]
   clear HE hR1 hR2
   go_enter Tryz.func9, Tryz.ntmps9
   go_wp2_with fail
   refine CT.out.mono ?_
   rintro e w1 ⟨rfl, hb1⟩
   have HB1 := Lib.hid hb1
   have CO1 := Lib.hid (CO.out w1 hb1)
   clear hb1 CT
   go_wp2_with fail
   refine CO1.out.mono ?_
   rintro e w2 ⟨rfl, hb2⟩
   have HX := Lib.hid (HB1.out.trans (hb2.mono HB1.out.size))
   clear hb2 CO1
   go_wp2_with fail
   go_ret2
   exact ⟨rfl, HX.out⟩
 have g0 : (s == []) = false := by rw [beq_eq_false_iff_ne]; exact h0
 have g1 : (s != []) = true := by rw [bne_iff_ne]; exact h0
 cases hn : nameB s with
 | false =>
  have HE : Hid (putSubR s = ([], 4)) := Lib.hid (by unfold putSubR; rw [if_pos ⟨h0, hn⟩])
  rw [HE.out]
  rw [hn] at CN
  clear HE hn h0
  go_enter Tryz.func9, Tryz.ntmps9
  go_wp2_with (go_at_call 30; refine (CN.out _).mono ?_; rintro e w' ⟨rfl, rfl⟩)
  go_ret2
  exact ⟨rfl, Below.refl _ _⟩
 | true =>
  have HE : Hid (putSubR s = objR (subMs s)) := Lib.hid (by unfold putSubR; rw [if_neg (by rw [hn]; simp)])
  rw [HE.out]
  rw [hn] at CN
  obtain ⟨R1, hR1⟩ : ∃ R1, R1 = (objR (subMs s)).1 := ⟨_, rfl⟩
  obtain ⟨R2, hR2⟩ : ∃ R2, R2 = (objR (subMs s)).2 := ⟨_, rfl⟩
  rw [← hR1, ← hR2] at CO
  rw [← hR1, ← hR2]
  clear HE hR1 hR2 hn h0
  go_enter Tryz.func9, Tryz.ntmps9
  go_wp2_with (go_at_call 30; refine (CN.out _).mono ?_; rintro e w' ⟨rfl, rfl⟩)
  refine CT.out.mono ?_
  rintro e w1 ⟨rfl, hb1⟩
  have HB1 := Lib.hid hb1
  have CO1 := Lib.hid (CO.out w1 hb1)
  clear hb1 CT
  go_wp2_with fail
  refine CO1.out.mono ?_
  rintro e w2 ⟨rfl, hb2⟩
  have HX := Lib.hid (HB1.out.trans (hb2.mono HB1.out.size))
  clear hb2 CO1
  go_wp2_with fail
  go_ret2
  exact ⟨rfl, HX.out⟩
end Go.Proofs.YtegblhmcfemfgaaGreatDoor
set_option maxRecDepth 100000
set_option maxHeartbeats 8000000
namespace Go.Proofs.YtegblhmcfemfgaaGreatDoor
open Go.RowKit
def titleN : List UInt8 := [116, 105, 116, 108, 101]
def readN : List UInt8 := [114, 101, 97, 100]
def starN : List UInt8 := [115, 116, 97, 114]
def feedMs (t : List UInt8) (n : Int) : List MemT := [([110], .mk 4 n [] [] []), (titleN, .mk 5 0 t [] [])]
def stateMs (a b : Int) : List MemT := [(readN, .mk 4 a [] [] []), (starN, .mk 4 b [] [] [])]
def badF (t : List UInt8) (n : Int) : Prop := n < 0 ∨ 1000000 < n ∨ 500 < t.length
instance decBadF (t : List UInt8) (n : Int) : Decidable (badF t n) := by unfold badF; infer_instance
def badS (a b : Int) : Prop := a < 0 ∨ 2 < a ∨ b < 0 ∨ 1 < b ∨ (a = 0 ∧ b = 0)
instance decBadS (a b : Int) : Decidable (badS a b) := by unfold badS; infer_instance
def putFeedR (t : List UInt8) (n : Int) : List UInt8 × Int := if badF t n then ([], 4) else objR (feedMs t n)
def putStateR (a b : Int) : List UInt8 × Int := if badS a b then ([], 4) else objR (stateMs a b)
theorem feed_len {t : List UInt8} {n : Int} (hn : ¬ badF t n) (h : mayV (.mk 7 0 [] [] (feedMs t n)) 64 = true) : (prV (.mk 7 0 [] [] (feedMs t n))).length ≤ 1000000 := by
 have hx : txF t = true := by
  simp only [feedMs, mayV, mayM, fitV, Bool.and_eq_true] at h
  simp_all
 have h1 := quo_len t hx
 have h2 : (quo titleN).length = 7 := by decide
 have h3 : (quo [110]).length = 3 := by decide
 have h4 := itoa_len (n := n) (by unfold badF at hn; omega)
 have e1 : prV (.mk 5 0 t [] []) = quo t := rfl
 have e2 : prV (.mk 4 n [] [] []) = Lib.itoa n := rfl
 have e : prV (.mk 7 0 [] [] (feedMs t n)) = 123 :: ((prU (feedMs t n)).drop 1 ++ [125]) := rfl
 rw [e]
 simp [feedMs, prU, e1, e2, h2, h3]
 omega
theorem state_len {a b : Int} (hn : ¬ badS a b) : (prV (.mk 7 0 [] [] (stateMs a b))).length ≤ 1000000 := by
 have h2 : (quo readN).length = 6 := by decide
 have h3 : (quo starN).length = 6 := by decide
 have h4 := itoa_len (n := a) (by unfold badS at hn; omega)
 have h5 := itoa_len (n := b) (by unfold badS at hn; omega)
 have e1 : prV (.mk 4 a [] [] []) = Lib.itoa a := rfl
 have e2 : prV (.mk 4 b [] [] []) = Lib.itoa b := rfl
 have e : prV (.mk 7 0 [] [] (stateMs a b)) = 123 :: ((prU (stateMs a b)).drop 1 ++ [125]) := rfl
 rw [e]
 simp [stateMs, prU, e1, e2, h2, h3]
 omega
theorem st_eql (a b : Int) (W : World) : (binOp .eql 27 (.agg #[.int .i64 a, .int .i64 b]) (.agg #[.int .i64 0, .int .i64 0])).run Tryz.prog W = .ok (.bool ((a == 0) && (b == 0))) W := by
 have hS : Tryz.prog.underlying 27 = some (.struct (Tryz.prog.fieldsOf 27)) := by kernel_rfl
 have hp : Tryz.prog.stoodInHeld 27 = false := by kernel_rfl
 rw [run_eql_struct, show (10000 : Nat) = 9999 + 1 from rfl, run_equalIn_agg W 9999 27 _ _ hS hp]
 simp only [Program.fieldsOf, Tryz.underlying27]
 cases ha : (a == 0) <;> cases hb : (b == 0) <;> (go_simp <;> (try simp_all))
theorem putFeed_any (t : List UInt8) (n : Int) (w : World) (ht : TabJ w.heap.size w) : Calls Tryz.prog 7 #[.agg #[str t, .int .i64 n]] w fun e w' => e = .returned (.tuple #[str (putFeedR t n).1, .int .i64 (putFeedR t n).2]) ∧ Below w.heap.size w w' := by
 have HT := Lib.hid ht
 obtain ⟨W1, hW1⟩ : ∃ W1, W1 = w.alloc (.cells #[str t, .int .i64 n] 23) := ⟨_, rfl⟩
 have hb1 : Below w.heap.size w W1 := by rw [hW1]; exact below_alloc _ _
 have hbx : W1.heap[w.heap.size]? = some (.cells #[str t, .int .i64 n] 23 (0, 0)) := by rw [hW1]; exact heap_alloc_new _ _
 obtain ⟨p0, p1⟩ := box2 hbx
 have HW := Lib.hid (And.intro hb1 hbx)
 clear ht hb1 hbx
 by_cases h2 : n < 0
 · have b2 := h2
   have HE : Hid (putFeedR t n = ([], 4)) := Lib.hid (by
    unfold putFeedR
    rw [if_pos (by unfold badF; omega)])
   rw [HE.out]
   have z1 : decide (n < 0) = true := decide_eq_true (by omega)
   clear HE h2 b2
   go_enter Tryz.func7, Tryz.ntmps7
   go_wp2_with fail
   rw [← hW1]
   go_ret2
   exact ⟨rfl, HW.out.1⟩
 have b2 := h2
 by_cases h4 : 1000000 < n
 · have b4 := h4
   have HE : Hid (putFeedR t n = ([], 4)) := Lib.hid (by
    unfold putFeedR
    rw [if_pos (by unfold badF; omega)])
   rw [HE.out]
   have z1 : decide (n < 0) = false := decide_eq_false (by omega)
   have z2 : decide ((1000000 : Int) < n) = true := decide_eq_true (by omega)
   clear HE h4 b4
   go_enter Tryz.func7, Tryz.ntmps7
   go_wp2_with fail
   rw [← hW1]
   go_ret2
   exact ⟨rfl, HW.out.1⟩
 have b4 := h4
 by_cases h6 : 500 < t.length
 · have b6 := h6
   have HE : Hid (putFeedR t n = ([], 4)) := Lib.hid (by
    unfold putFeedR
    rw [if_pos (by unfold badF; omega)])
   rw [HE.out]
   have z1 : decide (n < 0) = false := decide_eq_false (by omega)
   have z2 : decide ((1000000 : Int) < n) = false := decide_eq_false (by omega)
   have z3 : decide ((500 : Int) < (t.length : Int)) = true := decide_eq_true (by omega)
   clear HE h6 b6
   go_enter Tryz.func7, Tryz.ntmps7
   go_wp2_with fail
   rw [← hW1]
   go_ret2
   exact ⟨rfl, HW.out.1⟩
 have b6 := h6
 have hgd : ¬ badF t n := by unfold badF; omega
 have HE : Hid (putFeedR t n = objR (feedMs t n)) := Lib.hid (by
  unfold putFeedR
  rw [if_neg hgd])
 rw [HE.out]
 have z1 : decide (n < 0) = false := decide_eq_false (by omega)
 have z2 : decide ((1000000 : Int) < n) = false := decide_eq_false (by omega)
 have z3 : decide ((500 : Int) < (t.length : Int)) = false := decide_eq_false (by omega)
 have CN : Hid (∀ W, Hid (Below W1.heap.size W1 W) → Calls Tryz.prog 27 #[str [110], .int .i64 n] W fun e w' => e = .returned (.agg #[str [110], .int .i64 4, .int .i64 n, str [], .slice none 0 0, .slice none 0 0]) ∧ Hid (Below W1.heap.size W1 w')) := Lib.hid (fun W hb => (bNumber_any _ _ W).mono (by
  rintro e w' ⟨rfl, h'⟩
  exact ⟨rfl, Lib.hid (hb.out.trans (h'.mono hb.out.size))⟩))
 have CT : Hid (∀ W, Hid (Below W1.heap.size W1 W) → Calls Tryz.prog 28 #[str [116, 105, 116, 108, 101], str t] W fun e w' => e = .returned (.agg #[str [116, 105, 116, 108, 101], .int .i64 5, .int .i64 0, str t, .slice none 0 0, .slice none 0 0]) ∧ Hid (Below W1.heap.size W1 w')) := Lib.hid (fun W hb => (bText_any _ _ W).mono (by
  rintro e w' ⟨rfl, h'⟩
  exact ⟨rfl, Lib.hid (hb.out.trans (h'.mono hb.out.size))⟩))
 have CO : Hid (∀ W, Hid (Below W1.heap.size W1 W) → Calls Tryz.prog 26 #[.slice (some ⟨W.heap.size, 0, none⟩) 2 2] (W.alloc (.cells #[str [110], .int .i64 4, .int .i64 n, str [], .slice none 0 0, .slice none 0 0, str [116, 105, 116, 108, 101], .int .i64 5, .int .i64 0, str t, .slice none 0 0, .slice none 0 0] 74)) fun e w' => e = .returned (.tuple #[str (objR (feedMs t n)).1, .int .i64 (objR (feedMs t n)).2]) ∧ Hid (Below W1.heap.size W1 w')) := Lib.hid (fun W hb => by
  have hb2 := below_alloc W (.cells #[str [110], .int .i64 4, .int .i64 n, str [], .slice none 0 0, .slice none 0 0, str [116, 105, 116, 108, 101], .int .i64 5, .int .i64 0, str t, .slice none 0 0, .slice none 0 0] 74)
  refine (robject_any (F := fun _ => True) (ms := feedMs t n) (rows := [[str [110], .int .i64 4, .int .i64 n, str [], .slice none 0 0, .slice none 0 0], [str [116, 105, 116, 108, 101], .int .i64 5, .int .i64 0, str t, .slice none 0 0, .slice none 0 0]]) (RdFB.lit6 _ (by simp) (heap_alloc_new W _) rfl (by simp) trivial) (by
   unfold feedMs RdM
   refine ⟨⟨_, rfl, plainJ _ _ _ _ _⟩, ?_⟩
   unfold RdM
   refine ⟨⟨_, rfl, plainJ _ _ _ _ _⟩, ?_⟩
   unfold RdM
   trivial) (feed_len hgd) (fun w' h' => HT.out w' (((HW.out.1.trans (hb.out.mono HW.out.1.size)).trans (hb2.mono (Nat.le_trans HW.out.1.size hb.out.size))).trans (h'.mono (Nat.le_trans (Nat.le_trans HW.out.1.size hb.out.size) hb2.size))))).mono ?_
  rintro e w' ⟨rfl, h'⟩
  exact ⟨rfl, Lib.hid ((hb.out.trans (hb2.mono hb.out.size)).trans (h'.mono (Nat.le_trans hb.out.size hb2.size)))⟩)
 obtain ⟨R1, hR1⟩ : ∃ R1, R1 = (objR (feedMs t n)).1 := ⟨_, rfl⟩
 obtain ⟨R2, hR2⟩ : ∃ R2, R2 = (objR (feedMs t n)).2 := ⟨_, rfl⟩
 rw [← hR1, ← hR2] at CO
 rw [← hR1, ← hR2]
 have HB : Hid (Below W1.heap.size W1 W1.drew) := Lib.hid (Below.drewsN (Below.refl _ _) 1)
 have HKS : Hid (∀ W', Below W1.heap.size W1 W' → W'.cell? ⟨w.heap.size, 0, none⟩ = some (str t) ∧ W'.cell? ⟨w.heap.size, 1, none⟩ = some (.int .i64 n)) := Lib.hid (fun W' hb => ⟨(hb.cell (p := ⟨w.heap.size, 0, none⟩) (World.block_lt_of_cell? W1 _ p0)).trans p0, (hb.cell (p := ⟨w.heap.size, 1, none⟩) (World.block_lt_of_cell? W1 _ p1)).trans p1⟩)
 clear HE hR1 hR2 hgd
 go_enter Tryz.func7, Tryz.ntmps7
 go_upto_region 1 with fail
 rw [← hW1]
 clear hW1
 go_wp2_with fail
 go_region_held3 (fun W' => W'.cell? ⟨w.heap.size, 0, none⟩ = some (str t) ∧ W'.cell? ⟨w.heap.size, 1, none⟩ = some (.int .i64 n))
  (first | (exact HKS.out _ HB.out) | (exact HKS.out _ (HB.out.trans ((below_alloc _ _).mono HB.out.size))) | go_keep)
  ((first
    | (go_at_call 27; refine (CN.out _ HB).mono ?_; rintro e w5 ⟨rfl, HB⟩)
    | (go_at_call 28; refine (CT.out _ HB).mono ?_; rintro e w5 ⟨rfl, HB⟩)
    | (go_at_call 26; refine (CO.out _ HB).mono ?_; rintro e w7 ⟨rfl, HB⟩)
    | fail))
 all_goals
  clear p0 p1 HKS
  have HX := Lib.hid (HW.out.1.trans (HB.out.mono HW.out.1.size))
  go_wp2_with fail
  go_ret2
  exact ⟨rfl, HX.out⟩
theorem putState_any (a b : Int) (w : World) (ht : TabJ w.heap.size w) : Calls Tryz.prog 10 #[.agg #[.int .i64 a, .int .i64 b]] w fun e w' => e = .returned (.tuple #[str (putStateR a b).1, .int .i64 (putStateR a b).2]) ∧ Below w.heap.size w w' := by
 have HT := Lib.hid ht
 obtain ⟨W1, hW1⟩ : ∃ W1, W1 = w.alloc (.cells #[.int .i64 a, .int .i64 b] 27) := ⟨_, rfl⟩
 have hb1 : Below w.heap.size w W1 := by rw [hW1]; exact below_alloc _ _
 have hbx : W1.heap[w.heap.size]? = some (.cells #[.int .i64 a, .int .i64 b] 27 (0, 0)) := by rw [hW1]; exact heap_alloc_new _ _
 obtain ⟨p0, p1⟩ := box2 hbx
 have HW := Lib.hid (And.intro hb1 hbx)
 clear ht hb1 hbx
 by_cases h2 : a < 0
 · have b2 := h2
   have HE : Hid (putStateR a b = ([], 4)) := Lib.hid (by
    unfold putStateR
    rw [if_pos (by unfold badS; omega)])
   rw [HE.out]
   have z1 : decide (a < 0) = true := decide_eq_true (by omega)
   clear HE h2 b2
   go_enter Tryz.func10, Tryz.ntmps10
   go_wp2_with fail
   rw [← hW1]
   go_ret2
   exact ⟨rfl, HW.out.1⟩
 have b2 := h2
 by_cases h4 : 2 < a
 · have b4 := h4
   have HE : Hid (putStateR a b = ([], 4)) := Lib.hid (by
    unfold putStateR
    rw [if_pos (by unfold badS; omega)])
   rw [HE.out]
   have z1 : decide (a < 0) = false := decide_eq_false (by omega)
   have z2 : decide ((2 : Int) < a) = true := decide_eq_true (by omega)
   clear HE h4 b4
   go_enter Tryz.func10, Tryz.ntmps10
   go_wp2_with fail
   rw [← hW1]
   go_ret2
   exact ⟨rfl, HW.out.1⟩
 have b4 := h4
 by_cases h6 : b < 0
 · have b6 := h6
   have HE : Hid (putStateR a b = ([], 4)) := Lib.hid (by
    unfold putStateR
    rw [if_pos (by unfold badS; omega)])
   rw [HE.out]
   have z1 : decide (a < 0) = false := decide_eq_false (by omega)
   have z2 : decide ((2 : Int) < a) = false := decide_eq_false (by omega)
   have z3 : decide (b < 0) = true := decide_eq_true (by omega)
   clear HE h6 b6
   go_enter Tryz.func10, Tryz.ntmps10
   go_wp2_with fail
   rw [← hW1]
   go_ret2
   exact ⟨rfl, HW.out.1⟩
 have b6 := h6
 by_cases h8 : 1 < b
 · have b8 := h8
   have HE : Hid (putStateR a b = ([], 4)) := Lib.hid (by
    unfold putStateR
    rw [if_pos (by unfold badS; omega)])
   rw [HE.out]
   have z1 : decide (a < 0) = false := decide_eq_false (by omega)
   have z2 : decide ((2 : Int) < a) = false := decide_eq_false (by omega)
   have z3 : decide (b < 0) = false := decide_eq_false (by omega)
   have z4 : decide ((1 : Int) < b) = true := decide_eq_true (by omega)
   clear HE h8 b8
   go_enter Tryz.func10, Tryz.ntmps10
   go_wp2_with fail
   rw [← hW1]
   go_ret2
   exact ⟨rfl, HW.out.1⟩
 have b8 := h8
 by_cases h10 : a = 0 ∧ b = 0
 · have b10 := h10
   have HE : Hid (putStateR a b = ([], 4)) := Lib.hid (by
    unfold putStateR
    rw [if_pos (by unfold badS; omega)])
   rw [HE.out]
   have z1 : decide (a < 0) = false := decide_eq_false (by omega)
   have z2 : decide ((2 : Int) < a) = false := decide_eq_false (by omega)
   have z3 : decide (b < 0) = false := decide_eq_false (by omega)
   have z4 : decide ((1 : Int) < b) = false := decide_eq_false (by omega)
   have z5 : ((a == 0) && (b == 0)) = true := by simp; omega
   have z6 := fun W => st_eql a b W
   rw [z5] at z6
   clear HE h10 b10
   go_enter Tryz.func10, Tryz.ntmps10
   go_wp2_with fail
   rw [← hW1]
   go_ret2
   exact ⟨rfl, HW.out.1⟩
 have b10 := h10
 have hgd : ¬ badS a b := by unfold badS; omega
 have HE : Hid (putStateR a b = objR (stateMs a b)) := Lib.hid (by
  unfold putStateR
  rw [if_neg hgd])
 rw [HE.out]
 have z1 : decide (a < 0) = false := decide_eq_false (by omega)
 have z2 : decide ((2 : Int) < a) = false := decide_eq_false (by omega)
 have z3 : decide (b < 0) = false := decide_eq_false (by omega)
 have z4 : decide ((1 : Int) < b) = false := decide_eq_false (by omega)
 have z5 : ((a == 0) && (b == 0)) = false := by simp; omega
 have z6 := fun W => st_eql a b W
 rw [z5] at z6
 have CN : Hid (∀ W, Hid (Below W1.heap.size W1 W) → Calls Tryz.prog 27 #[str [114, 101, 97, 100], .int .i64 a] W fun e w' => e = .returned (.agg #[str [114, 101, 97, 100], .int .i64 4, .int .i64 a, str [], .slice none 0 0, .slice none 0 0]) ∧ Hid (Below W1.heap.size W1 w')) := Lib.hid (fun W hb => (bNumber_any _ _ W).mono (by
  rintro e w' ⟨rfl, h'⟩
  exact ⟨rfl, Lib.hid (hb.out.trans (h'.mono hb.out.size))⟩))
 have CT : Hid (∀ W, Hid (Below W1.heap.size W1 W) → Calls Tryz.prog 27 #[str [115, 116, 97, 114], .int .i64 b] W fun e w' => e = .returned (.agg #[str [115, 116, 97, 114], .int .i64 4, .int .i64 b, str [], .slice none 0 0, .slice none 0 0]) ∧ Hid (Below W1.heap.size W1 w')) := Lib.hid (fun W hb => (bNumber_any _ _ W).mono (by
  rintro e w' ⟨rfl, h'⟩
  exact ⟨rfl, Lib.hid (hb.out.trans (h'.mono hb.out.size))⟩))
 have CO : Hid (∀ W, Hid (Below W1.heap.size W1 W) → Calls Tryz.prog 26 #[.slice (some ⟨W.heap.size, 0, none⟩) 2 2] (W.alloc (.cells #[str [114, 101, 97, 100], .int .i64 4, .int .i64 a, str [], .slice none 0 0, .slice none 0 0, str [115, 116, 97, 114], .int .i64 4, .int .i64 b, str [], .slice none 0 0, .slice none 0 0] 74)) fun e w' => e = .returned (.tuple #[str (objR (stateMs a b)).1, .int .i64 (objR (stateMs a b)).2]) ∧ Hid (Below W1.heap.size W1 w')) := Lib.hid (fun W hb => by
  have hb2 := below_alloc W (.cells #[str [114, 101, 97, 100], .int .i64 4, .int .i64 a, str [], .slice none 0 0, .slice none 0 0, str [115, 116, 97, 114], .int .i64 4, .int .i64 b, str [], .slice none 0 0, .slice none 0 0] 74)
  refine (robject_any (F := fun _ => True) (ms := stateMs a b) (rows := [[str [114, 101, 97, 100], .int .i64 4, .int .i64 a, str [], .slice none 0 0, .slice none 0 0], [str [115, 116, 97, 114], .int .i64 4, .int .i64 b, str [], .slice none 0 0, .slice none 0 0]]) (RdFB.lit6 _ (by simp) (heap_alloc_new W _) rfl (by simp) trivial) (by
   unfold stateMs RdM
   refine ⟨⟨_, rfl, plainJ _ _ _ _ _⟩, ?_⟩
   unfold RdM
   refine ⟨⟨_, rfl, plainJ _ _ _ _ _⟩, ?_⟩
   unfold RdM
   trivial) (fun _ => state_len hgd) (fun w' h' => HT.out w' (((HW.out.1.trans (hb.out.mono HW.out.1.size)).trans (hb2.mono (Nat.le_trans HW.out.1.size hb.out.size))).trans (h'.mono (Nat.le_trans (Nat.le_trans HW.out.1.size hb.out.size) hb2.size))))).mono ?_
  rintro e w' ⟨rfl, h'⟩
  exact ⟨rfl, Lib.hid ((hb.out.trans (hb2.mono hb.out.size)).trans (h'.mono (Nat.le_trans hb.out.size hb2.size)))⟩)
 obtain ⟨R1, hR1⟩ : ∃ R1, R1 = (objR (stateMs a b)).1 := ⟨_, rfl⟩
 obtain ⟨R2, hR2⟩ : ∃ R2, R2 = (objR (stateMs a b)).2 := ⟨_, rfl⟩
 rw [← hR1, ← hR2] at CO
 rw [← hR1, ← hR2]
 have HB : Hid (Below W1.heap.size W1 W1.drew) := Lib.hid (Below.drewsN (Below.refl _ _) 1)
 have HKS : Hid (∀ W', Below W1.heap.size W1 W' → W'.cell? ⟨w.heap.size, 0, none⟩ = some (.int .i64 a) ∧ W'.cell? ⟨w.heap.size, 1, none⟩ = some (.int .i64 b)) := Lib.hid (fun W' hb => ⟨(hb.cell (p := ⟨w.heap.size, 0, none⟩) (World.block_lt_of_cell? W1 _ p0)).trans p0, (hb.cell (p := ⟨w.heap.size, 1, none⟩) (World.block_lt_of_cell? W1 _ p1)).trans p1⟩)
 clear HE hR1 hR2 hgd
 go_enter Tryz.func10, Tryz.ntmps10
 go_upto_region 1 with fail
 rw [← hW1]
 clear hW1
 go_wp2_with fail
 go_region_held3 (fun W' => W'.cell? ⟨w.heap.size, 0, none⟩ = some (.int .i64 a) ∧ W'.cell? ⟨w.heap.size, 1, none⟩ = some (.int .i64 b))
  (first | (exact HKS.out _ HB.out) | (exact HKS.out _ (HB.out.trans ((below_alloc _ _).mono HB.out.size))) | go_keep)
  ((first
    | (go_at_call 27; refine (CN.out _ HB).mono ?_; rintro e w5 ⟨rfl, HB⟩)
    | (go_at_call 27; refine (CT.out _ HB).mono ?_; rintro e w5 ⟨rfl, HB⟩)
    | (go_at_call 26; refine (CO.out _ HB).mono ?_; rintro e w7 ⟨rfl, HB⟩)
    | fail))
 all_goals
  clear p0 p1 HKS
  have HX := Lib.hid (HW.out.1.trans (HB.out.mono HW.out.1.size))
  go_wp2_with fail
  go_ret2
  exact ⟨rfl, HX.out⟩
end Go.Proofs.YtegblhmcfemfgaaGreatDoor
