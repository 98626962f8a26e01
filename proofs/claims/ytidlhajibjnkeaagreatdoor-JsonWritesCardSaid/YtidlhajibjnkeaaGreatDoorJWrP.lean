import Derived.Test.YtidlhajibjnkeaaGreatDoorSignAt
import Derived.Test.YtidlhajibjnkeaaGreatDoorTLaw
import Derived.Lib.ItoaNum
import Derived.Deep.RegionWith
import Derived.Laws.IdiomStrings
import Derived.Test.YtidlhajibjnkeaaGreatDoorRjMay
import Derived.Test.YtidlhajibjnkeaaGreatDoorRQuo
import Derived.Test.YtidlhajibjnkeaaGreatDoorJPrn
import Derived.Deep.LoopGhost
import Derived.Test.YtidlhajibjnkeaaGreatDoorJGet
import Derived.Test.YtidlhajibjnkeaaGreatDoorRjMem
/- hblref.Dec: a number in decimal digits. -/
namespace Go.Proofs.YtidlhajibjnkeaaGreatDoor
open Go.RowKit
attribute [local go_sem] str_cat

theorem itoa_nat (u : Nat) : Lib.itoa (u : Int) = Lib.decDigits u := by unfold Lib.itoa; rw [if_neg (by omega)]; rfl
theorem dec_small {u : Nat} (h : u < 10) : Lib.decDigits u = [UInt8.ofNat (48 + u)] := Lib.decDigits_one h
theorem dec_big {u : Nat} (h : ¬ u < 10) : Lib.decDigits u = Lib.decDigits (u / 10) ++ [UInt8.ofNat (48 + u % 10)] := by rw [Lib.decDigits, dif_neg h]
theorem dec_len {u : Nat} (h : u < 18446744073709551616) : (Lib.decDigits u).length ≤ 20 := by
  rw [Lib.decDigits_length]
  have h2 : ∀ k u : Nat, u < 10 ^ k → 1 ≤ k → Lib.nDigits u ≤ k := by
    intro k
    induction k with
    | zero => intro u _ h; omega
    | succ k ih =>
      intro u hu _
      by_cases hs : u < 10
      · rw [Lib.nDigits_small hs]; omega
      · rw [Lib.nDigits_big hs]
        have hk : 1 ≤ k := by
          rcases k with _ | k
          · simp at hu; omega
          · omega
        have := ih (u / 10) (by rw [Nat.pow_succ] at hu; omega) hk
        omega
  exact h2 20 u (by omega) (by omega)
theorem Below.undrew {B : Nat} {w w' : World} (h : Below B w.drew w') : Below B w w' := ⟨h.os, h.tape, h.output, h.size, h.block⟩
/-- A byte alone, as a string, in whatever world behind. -/
theorem conv_one (c : UInt8) (n : Int) (hn : n = (c.toNat : Int)) (w W : World) (hb : Below (w.heap.size + 1) (w.alloc (.cells #[.int .u8 n] 5)) W) :
    (convert 22 9 (.slice (some ⟨w.heap.size, 0, none⟩) 1 1)).run Tryz.prog W = .ok (str [c]) W :=
  bt.toString (S := 9) Tryz.underlying9 ((Rd.one 5 w c n hn).below hb (by simp))
set_option maxRecDepth 100000 in
set_option maxHeartbeats 1000000 in
theorem dec_any : ∀ (u : Nat), u < 9223372036854775808 → ∀ w : World, Calls Tryz.prog 56 #[.int .i64 (u : Int)] w fun e w' => e = .returned (str (Lib.decDigits u)) ∧ Below w.heap.size w w' := by
  intro u
  induction u using Nat.strongRecOn with
  | ind u ih =>
    intro hu w
    have n0 : ¬ (u : Int) < 0 := by omega
    by_cases hs : u < 10
    · rw [dec_small hs]
      have n1 : (u : Int) < 10 := by omega
      obtain ⟨c, hc⟩ : ∃ c, c = UInt8.ofNat (48 + u) := ⟨_, rfl⟩
      have hcn : ((48 : Int) + (u : Int)) = (c.toNat : Int) := by rw [hc, UInt8.toNat_ofNat']; omega
      rw [← hc]
      have k1 := conv_one c _ hcn w _ (Below.refl _ _)
      clear hc hs ih
      have HN := Lib.hid hcn
      clear hcn
      go_enter Tryz.func56, Tryz.ntmps56
      go_wp2
      go_ret
      exact ⟨rfl, below_alloc _ _⟩
    · rw [dec_big hs]
      have n1 : ¬ (u : Int) < 10 := by omega
      obtain ⟨q, hq⟩ : ∃ q, q = u / 10 := ⟨_, rfl⟩
      obtain ⟨r, hr⟩ : ∃ r, r = u % 10 := ⟨_, rfl⟩
      have HD := Lib.hid (ih (u / 10) (by omega) (by omega))
      have hl := dec_len (u := u / 10) (by omega)
      rw [← hq] at HD hl ⊢
      rw [← hr]
      obtain ⟨D, hD⟩ : ∃ D, D = Lib.decDigits q := ⟨_, rfl⟩
      rw [← hD] at HD hl ⊢
      obtain ⟨c, hc⟩ : ∃ c, c = UInt8.ofNat (48 + r) := ⟨_, rfl⟩
      have hr10 : r < 10 := by omega
      have hcn : (48 : Int) + (r : Int) = (c.toNat : Int) := by rw [hc, UInt8.toNat_ofNat']; omega
      rw [← hc]
      have e0 : (u : Int) / 10 = (q : Int) := by omega
      have e0' : Int.tdiv (u : Int) 10 = (q : Int) := by rw [Int.tdiv_eq_ediv_of_nonneg (by omega)]; omega
      have e1 : (u : Int) % 10 = (r : Int) := by omega
      have e1' : Int.tmod (u : Int) 10 = (r : Int) := by rw [Int.tmod_eq_emod_of_nonneg (by omega)]; omega
      have e2 : IntKind.i64.wrap (c.toNat : Int) = (c.toNat : Int) := IntWalk.i64_in _ (by have := c.toNat_lt; omega)
      have e4 : IntKind.i64.wrap (q : Int) = (q : Int) := IntWalk.i64_in _ (by omega)
      have e3 : (c.toNat : Int) % 256 = (c.toNat : Int) := by have := c.toNat_lt; omega
      have e3' : IntKind.u8.wrap (c.toNat : Int) = (c.toNat : Int) := by have := c.toNat_lt; show (c.toNat : Int) % 256 = _; omega
      have hlen : ¬ (9223372036854775807 < D.length + 1) := by omega
      clear hD hc hs ih hq hr
      have HCA : Hid (Calls Tryz.prog 56 #[.int .i64 (q : Int)] ((w.alloc (.cells #[.int .u8 (c.toNat : Int)] 5)).drew) fun e w' => e = .returned (str D) ∧ Below w.heap.size w w' ∧ (convert 22 9 (.slice (some ⟨w.heap.size, 0, none⟩) 1 1)).run Tryz.prog w' = .ok (str [c]) w') := Lib.hid ((HD.out _).mono (fun e w' ⟨h1, h2⟩ => ⟨h1, (below_alloc w _).trans ((Below.undrew h2).mono (by simp)), conv_one c _ rfl w w' (by simpa using Below.undrew h2)⟩))
      have HCB : Hid (∀ W, Calls Tryz.prog 56 #[.int .i64 (q : Int)] W fun e w' => e = .returned (str D) ∧ Below W.heap.size W w') := HD
      have k0 : ∀ W : World, (convert 22 9 (.slice (some ⟨W.heap.size, 0, none⟩) 1 1)).run Tryz.prog (W.alloc (.cells #[.int .u8 (c.toNat : Int)] 5)) = .ok (str [c]) (W.alloc (.cells #[.int .u8 (c.toNat : Int)] 5)) := fun W => conv_one c _ rfl W _ (Below.refl _ _)
      have k1 : ∀ W : World, (convert 22 9 (.slice (some ⟨W.heap.size, 0, none⟩) 1 1)).run Tryz.prog (W.alloc (.cells #[.int .u8 (c.toNat : Int)] 5)).drew = .ok (str [c]) (W.alloc (.cells #[.int .u8 (c.toNat : Int)] 5)).drew := fun W => conv_one c _ rfl W _ (Below.drewsN (Below.refl _ _) 1)
      go_enter Tryz.func56, Tryz.ntmps56
      go_wp2_with fail
      go_region_with (first
        | (go_at_call 56
           (with_reducible refine HCA.out.mono ?_)
           rintro e w1 ⟨rfl, hb1, hk1⟩)
        | (go_at_call 56
           (with_reducible refine (HCB.out _).mono ?_)
           rintro e w1 ⟨rfl, hb1⟩)
        | fail)
      all_goals
        go_wp2_with fail
        go_ret
        first
          | exact ⟨rfl, hb1⟩
          | exact ⟨rfl, (Below.undrew hb1).trans ((below_alloc w1 _).mono (Below.undrew hb1).size)⟩
          | exact ⟨rfl, Below.drewsN ((Below.undrew hb1).trans ((below_alloc w1 _).mono (Below.undrew hb1).size)) 1⟩
set_option maxRecDepth 100000 in
set_option maxHeartbeats 1000000 in
theorem decN_any (n : Int) (h : -9223372036854775808 ≤ n ∧ n ≤ 9223372036854775807) (w : World) : Calls Tryz.prog 56 #[.int .i64 n] w fun e w' => e = .returned (str (Lib.itoa n)) ∧ Below w.heap.size w w' := by
  by_cases h0 : 0 ≤ n
  · obtain ⟨u, rfl⟩ : ∃ u : Nat, n = (u : Int) := ⟨n.toNat, by omega⟩
    rw [itoa_nat]
    exact dec_any u (by omega) w
  · obtain ⟨u, rfl⟩ : ∃ u : Nat, n = -(u : Int) := ⟨(-n).toNat, by omega⟩
    have hu : 0 < u ∧ u ≤ 9223372036854775808 := by omega
    have hit : Lib.itoa (-(u : Int)) = 45 :: Lib.decDigits u := by
      unfold Lib.itoa
      rw [if_pos (by omega), Int.natAbs_neg, Int.natAbs_natCast]
    rw [hit]
    obtain ⟨q, hq⟩ : ∃ q, q = u / 10 := ⟨_, rfl⟩
    obtain ⟨r, hr⟩ : ∃ r, r = u % 10 := ⟨_, rfl⟩
    obtain ⟨c, hc⟩ : ∃ c, c = UInt8.ofNat (48 + r) := ⟨_, rfl⟩
    have hr10 : r < 10 := by omega
    obtain ⟨z, hz⟩ : ∃ z : Int, z = -(r : Int) := ⟨_, rfl⟩
    obtain ⟨p, hp⟩ : ∃ p : Int, p = -(q : Int) := ⟨_, rfl⟩
    have hcn : (48 : Int) - z = (c.toNat : Int) := by rw [hz, hc, UInt8.toNat_ofNat']; omega
    have e0' : Int.tdiv (-(u : Int)) 10 = p := by rw [hp, Int.neg_tdiv, Int.tdiv_eq_ediv_of_nonneg (by omega)]; omega
    have e1' : Int.tmod (-(u : Int)) 10 = z := by rw [hz, Int.neg_tmod, Int.tmod_eq_emod_of_nonneg (by omega)]; omega
    obtain ⟨m, hm⟩ : ∃ m : Int, m = -(u : Int) := ⟨_, rfl⟩
    rw [← hm] at e0' e1' ⊢
    have n0 : m < 0 := by omega
    have e2 : IntKind.i64.wrap (c.toNat : Int) = (c.toNat : Int) := IntWalk.i64_in _ (by have := c.toNat_lt; omega)
    have e3 : (c.toNat : Int) % 256 = (c.toNat : Int) := by have := c.toNat_lt; omega
    have e3' : IntKind.u8.wrap (c.toNat : Int) = (c.toNat : Int) := by have := c.toNat_lt; show (c.toNat : Int) % 256 = _; omega
    by_cases hs : u < 10
    · have hd : Lib.decDigits u = [c] := by rw [dec_small hs, hc, hr, Nat.mod_eq_of_lt hs]
      rw [hd]
      have hq0 : p = 0 := by omega
      rw [hq0] at e0'
      have k1 := conv_one c _ rfl w _ (Below.refl _ _)
      have z1 : IntKind.i64.wrap 0 = 0 := rfl
      clear hd hs hq0 hp hz hm hc hr hq hit hu h0 h
      go_enter Tryz.func56, Tryz.ntmps56
      go_wp2
      go_ret
      exact ⟨rfl, below_alloc _ _⟩
    · have hd : Lib.decDigits u = Lib.decDigits q ++ [c] := by rw [dec_big hs, hc, hr, hq]
      rw [hd]
      have HD := Lib.hid (dec_any q (by omega))
      have hl := dec_len (u := q) (by omega)
      obtain ⟨D, hD⟩ : ∃ D, D = Lib.decDigits q := ⟨_, rfl⟩
      rw [← hD] at HD hl ⊢
      have hp0 : (p == 0) = false := by rw [beq_eq_false_iff_ne]; omega
      have hpn : -p = (q : Int) := by omega
      have e4 : IntKind.i64.wrap (q : Int) = (q : Int) := IntWalk.i64_in _ (by omega)
      have e5 : IntKind.i64.wrap p = p := IntWalk.i64_in _ (by omega)
      have hlen : ¬ (9223372036854775807 < D.length + 1 + 1) := by omega
      have hlen2 : ¬ (9223372036854775807 < D.length + 1) := by omega
      clear hD hc hs hq hr hd hit hu h0 h hp hz hm
      have HCA : Hid (Calls Tryz.prog 56 #[.int .i64 (q : Int)] ((w.alloc (.cells #[.int .u8 (c.toNat : Int)] 5)).drew) fun e w' => e = .returned (str D) ∧ Below w.heap.size w w' ∧ (convert 22 9 (.slice (some ⟨w.heap.size, 0, none⟩) 1 1)).run Tryz.prog w' = .ok (str [c]) w') := Lib.hid ((HD.out _).mono (fun e w' ⟨h1, h2⟩ => ⟨h1, (below_alloc w _).trans ((Below.undrew h2).mono (by simp)), conv_one c _ rfl w w' (by simpa using Below.undrew h2)⟩))
      have HCB : Hid (∀ W, Calls Tryz.prog 56 #[.int .i64 (q : Int)] W fun e w' => e = .returned (str D) ∧ Below W.heap.size W w') := HD
      have k0 : ∀ W : World, (convert 22 9 (.slice (some ⟨W.heap.size, 0, none⟩) 1 1)).run Tryz.prog (W.alloc (.cells #[.int .u8 (c.toNat : Int)] 5)) = .ok (str [c]) (W.alloc (.cells #[.int .u8 (c.toNat : Int)] 5)) := fun W => conv_one c _ rfl W _ (Below.refl _ _)
      have k1 : ∀ W : World, (convert 22 9 (.slice (some ⟨W.heap.size, 0, none⟩) 1 1)).run Tryz.prog (W.alloc (.cells #[.int .u8 (c.toNat : Int)] 5)).drew = .ok (str [c]) (W.alloc (.cells #[.int .u8 (c.toNat : Int)] 5)).drew := fun W => conv_one c _ rfl W _ (Below.drewsN (Below.refl _ _) 1)
      go_enter Tryz.func56, Tryz.ntmps56
      go_wp2_with fail
      go_region_with (first
        | (go_at_call 56
           (with_reducible refine HCA.out.mono ?_)
           rintro e w1 ⟨rfl, hb1, hk1⟩)
        | (go_at_call 56
           (with_reducible refine (HCB.out _).mono ?_)
           rintro e w1 ⟨rfl, hb1⟩)
        | fail)
      all_goals
        go_wp2_with fail
        go_ret
        first
          | exact ⟨rfl, hb1⟩
          | exact ⟨rfl, (Below.undrew hb1).trans ((below_alloc w1 _).mono (Below.undrew hb1).size)⟩
          | exact ⟨rfl, Below.drewsN ((Below.undrew hb1).trans ((below_alloc w1 _).mono (Below.undrew hb1).size)) 1⟩
end Go.Proofs.YtidlhajibjnkeaaGreatDoor

/- Strings: joined, turned to bytes. -/
namespace Go.Proofs.YtidlhajibjnkeaaGreatDoor
open Go.RowKit

/-- '[]byte(s)'. -/
theorem bytes_run (l : List UInt8) (W : World) (hl : l.length ≤ 1000000) : ∃ cap w', (convert 9 22 (str l)).run Tryz.prog W = .ok (.slice (some ⟨W.heap.size, 0, none⟩) l.length cap) w' ∧ Rd w' (.slice (some ⟨W.heap.size, 0, none⟩) l.length cap) l ∧ Below W.heap.size W w' := by
  have := run_bytes_of_string (P := Tryz.prog) W 9 22 5 ⟨l.toArray⟩ Tryz.underlying9 Tryz.underlying22 Tryz.underlying5
  have hs : (ByteArray.mk l.toArray).size = l.length := by simp [ByteArray.size]
  rw [hs] at this
  refine ⟨_, _, this, ?_, ?_⟩
  · refine ⟨_, _, rfl, grownCap_ge _ _ _ _, grownCap_le_maxLen _ _ _ _ (by simp only [maxLen]; omega), (fun e => by cases e), fun _ => ⟨W.heap.size, 0, rfl, fun i hi => ?_⟩⟩
    rw [Nat.zero_add, cell_of_row _ W.heap.size i _ 5 _ (heap_alloc_new W.drew _)]
    unfold bytesRow
    rw [Array.getElem?_append_left (by simpa using hi)]
    simp [bv, hi]
  · exact Below.alloc (Below.drewsN (Below.refl _ _) 1) (Nat.le_refl _) _
end Go.Proofs.YtidlhajibjnkeaaGreatDoor

/- hblref1.print1, Print: the document's texts of values. -/
namespace Go.Proofs.YtidlhajibjnkeaaGreatDoor
open Go.RowKit

theorem rquote_yes (s : List UInt8) (hv : txF s = true) (w : World) : Calls Tryz.prog 57 #[str s] w fun e w' => e = .returned (.tuple #[str (quo s), .int .i64 0]) ∧ Below w.heap.size w w' := by
  unfold txF at hv
  rw [Bool.and_eq_true] at hv
  have hl := of_decide_eq_true hv.1
  have hq : quoteE s = .returned (.tuple #[str (quo s), .int .i64 0]) := by rw [quoteE, hv.2]; rfl
  have := refQuote_any s w (by omega)
  rw [hq] at this
  exact this
/-- What stands in a value that may be. -/
theorem may_parts {v : JV} {d : Nat} (h : mayV v d = true) : (1 ≤ v.kind ∧ v.kind ≤ 7) ∧ (-9007199254740991 ≤ v.n ∧ v.n ≤ 9007199254740991) ∧ txF v.s = true ∧ mayL v.l (d - 1) = true ∧ mayM v.m none (d - 1) = true := by
  rw [mayV_mk] at h
  simp only [fitV, Bool.and_eq_true, decide_eq_true_eq] at h
  obtain ⟨⟨⟨⟨⟨_, h1⟩, h2⟩, h3⟩, h4⟩, h5⟩ := h
  exact ⟨⟨h1, h2⟩, ⟨h3.1.1.1.1.1.2, h3.1.1.1.1.2⟩, h3.1.1.2, h4, h5⟩
theorem pr_kind (v : JV) : prV v = if v.kind = 1 then [110, 117, 108, 108] else if v.kind = 2 then [102, 97, 108, 115, 101] else if v.kind = 3 then [116, 114, 117, 101] else if v.kind = 4 then Lib.itoa v.n else if v.kind = 5 then quo v.s else if v.kind = 6 then 91 :: (lsT v.l v.l.length ++ [93]) else 123 :: (obT v.m v.m.length ++ [125]) := by
  obtain ⟨k, n, s, l, m⟩ := v
  rw [lsT_all, obT_all, prV]
  rfl
theorem prT_mem {l : List JV} {x : JV} (h : x ∈ l) : (prV x).length ≤ ((prT l).drop 1).length := by
  induction l with
  | nil => cases h
  | cons y t ih =>
    rw [prT]
    rcases List.mem_cons.1 h with rfl | h
    · simp
    · have := ih h
      simp at this ⊢
      omega
theorem prU_mem {m : List MemT} {x : MemT} (h : x ∈ m) : (quo x.1).length + (prV x.2).length ≤ ((prU m).drop 1).length := by
  induction m with
  | nil => cases h
  | cons y t ih =>
    obtain ⟨a, b⟩ := y
    rw [prU]
    rcases List.mem_cons.1 h with rfl | h
    · simp; omega
    · have := ih h
      simp at this ⊢
      omega
/-- What print1 tells of a value that may be. -/
def RPrnC (v : JV) : Prop := ∀ (d : Nat), mayV v d = true → (prV v).length ≤ 1000000000 → ∀ (F : Nat → Prop) (w : World) (cs : List Value), RdJ w F v cs →
  Calls Tryz.prog 31 #[.agg cs.toArray] w fun e w' => e = .returned (str (prV v)) ∧ Below w.heap.size w w'
attribute [local go_sem] str_cat
set_option maxRecDepth 100000 in
set_option maxHeartbeats 32000000 in
theorem rjprn_step (v : JV) (IHL : ∀ x ∈ v.l, RPrnC x) (IHM : ∀ x ∈ v.m, RPrnC x.2) : RPrnC v := by
  intro d hm hlen F w cs h
  have HM := Lib.hid (may_parts hm)
  obtain ⟨al, ll, cl, am, lm, cm, rfl, ⟨rl, hrl, hll, rfl⟩, rm, hrm, hmm, rfl⟩ := h.open
  have g0 : v.l.length ≤ 9223372036854775807 := (hrl.lens).2.1
  have g1 : v.m.length ≤ 9223372036854775807 := (hrm.lens).2.1
  obtain ⟨W1, hW1⟩ : ∃ W1, W1 = w.alloc (.cells #[.int .i64 v.kind, .int .i64 v.n, str v.s, .slice al v.l.length cl, .slice am v.m.length cm] 35) := ⟨_, rfl⟩
  have hb1 : Below w.heap.size w W1 := by rw [hW1]; exact below_alloc _ _
  have hbx : W1.heap[w.heap.size]? = some (.cells #[.int .i64 v.kind, .int .i64 v.n, str v.s, .slice al v.l.length cl, .slice am v.m.length cm] 35 (0, 0)) := by rw [hW1]; exact heap_alloc_new _ _
  have HB := Lib.hid (And.intro hb1 hbx)
  have HL := Lib.hid (And.intro hrl (And.intro hll (And.intro hrm hmm)))
  have IL := Lib.hid IHL
  have IM := Lib.hid IHM
  have hkk : v.kind = 1 ∨ v.kind = 2 ∨ v.kind = 3 ∨ v.kind = 4 ∨ v.kind = 5 ∨ v.kind = 6 ∨ v.kind = 7 := by have := HM.out.1; omega
  clear IHL IHM hm hrl hll hrm hmm h hb1 hbx
  rcases hkk with hk | hk | hk | hk | hk | hk | hk
  · as_aux_lemma =>
    have y1 : (v.kind == 1) = true := by rw [hk]; rfl
    have HE : Hid (prV v = [110, 117, 108, 108]) := Lib.hid (by rw [pr_kind, hk]; rfl)
    clear hk IL IM HL HM
    go_enter Tryz.func31, Tryz.ntmps31
    go_upto_region 1 with fail
    rw [← hW1]
    clear hW1
    have p0 := box_cell HB.out.2 0
    go_wp2_with fail
    go_ret
    exact ⟨by rw [HE.out]; rfl, HB.out.1⟩
  · as_aux_lemma =>
    have y1 : (v.kind == 1) = false := by rw [hk]; rfl
    have y2 : (v.kind == 2) = true := by rw [hk]; rfl
    have HE : Hid (prV v = [102, 97, 108, 115, 101]) := Lib.hid (by rw [pr_kind, hk]; rfl)
    clear hk IL IM HL HM
    go_enter Tryz.func31, Tryz.ntmps31
    go_upto_region 1 with fail
    rw [← hW1]
    clear hW1
    have p0 := box_cell HB.out.2 0
    go_wp2_with fail
    go_ret
    exact ⟨by rw [HE.out]; rfl, HB.out.1⟩
  · as_aux_lemma =>
    have y1 : (v.kind == 1) = false := by rw [hk]; rfl
    have y2 : (v.kind == 2) = false := by rw [hk]; rfl
    have y3 : (v.kind == 3) = true := by rw [hk]; rfl
    have HE : Hid (prV v = [116, 114, 117, 101]) := Lib.hid (by rw [pr_kind, hk]; rfl)
    clear hk IL IM HL HM
    go_enter Tryz.func31, Tryz.ntmps31
    go_upto_region 1 with fail
    rw [← hW1]
    clear hW1
    have p0 := box_cell HB.out.2 0
    go_wp2_with fail
    go_ret
    exact ⟨by rw [HE.out]; rfl, HB.out.1⟩
  · as_aux_lemma =>
    have y1 : (v.kind == 1) = false := by rw [hk]; rfl
    have y2 : (v.kind == 2) = false := by rw [hk]; rfl
    have y3 : (v.kind == 3) = false := by rw [hk]; rfl
    have y4 : (v.kind == 4) = true := by rw [hk]; rfl
    have HE : Hid (prV v = Lib.itoa v.n) := Lib.hid (by rw [pr_kind, hk]; rfl)
    have CD := Lib.hid (fun W => decN_any v.n (by have := HM.out.2.1; omega) W)
    clear hk IL IM HL HM
    go_enter Tryz.func31, Tryz.ntmps31
    go_upto_region 1 with fail
    rw [← hW1]
    clear hW1
    have p0 := box_cell HB.out.2 0
    have p1 := box_cell HB.out.2 1
    go_wp2_with fail
    refine (CD.out _).mono ?_
    rintro e w2 ⟨rfl, hb2⟩
    have HX := Lib.hid (HB.out.1.trans (hb2.mono HB.out.1.size))
    clear hb2 CD p0 p1
    go_wp2_with fail
    go_ret
    exact ⟨by rw [HE.out]; rfl, HX.out⟩
  · as_aux_lemma =>
    have y1 : (v.kind == 1) = false := by rw [hk]; rfl
    have y2 : (v.kind == 2) = false := by rw [hk]; rfl
    have y3 : (v.kind == 3) = false := by rw [hk]; rfl
    have y4 : (v.kind == 4) = false := by rw [hk]; rfl
    have y5 : (v.kind == 5) = true := by rw [hk]; rfl
    have HE : Hid (prV v = quo v.s) := Lib.hid (by rw [pr_kind, hk]; rfl)
    have CD := Lib.hid (rquote_yes v.s HM.out.2.2.1)
    clear hk IL IM HL HM
    go_enter Tryz.func31, Tryz.ntmps31
    go_upto_region 1 with fail
    rw [← hW1]
    clear hW1
    have p0 := box_cell HB.out.2 0
    have p2 := box_cell HB.out.2 2
    go_wp2_with fail
    refine (CD.out _).mono ?_
    rintro e w2 ⟨rfl, hb2⟩
    have HX := Lib.hid (HB.out.1.trans (hb2.mono HB.out.1.size))
    clear hb2 CD p0 p2
    go_wp2_with fail
    go_ret
    exact ⟨by rw [HE.out]; rfl, HX.out⟩
  · as_aux_lemma =>
    have y1 : (v.kind == 1) = false := by rw [hk]; rfl
    have y2 : (v.kind == 2) = false := by rw [hk]; rfl
    have y3 : (v.kind == 3) = false := by rw [hk]; rfl
    have y4 : (v.kind == 4) = false := by rw [hk]; rfl
    have y5 : (v.kind == 5) = false := by rw [hk]; rfl
    have y6 : (v.kind == 6) = true := by rw [hk]; rfl
    have HE : Hid (prV v = 91 :: (lsT v.l v.l.length ++ [93])) := Lib.hid (by rw [pr_kind, hk]; rfl)
    have HLL : Hid (∀ k, k ≤ v.l.length → (lsT v.l k).length ≤ 1000000000) := Lib.hid (fun k hk' => by
      have h1 := lsT_le v.l hk'
      rw [HE.out] at hlen
      rw [← lsT_all] at h1
      simp at hlen
      omega)
    have IX : Hid (∀ x ∈ v.l, ∀ (F : Nat → Prop) (w : World) (cs : List Value), RdJ w F x cs → Calls Tryz.prog 31 #[.agg cs.toArray] w fun e w' => e = .returned (str (prV x)) ∧ Below w.heap.size w w') := Lib.hid (fun x hx F w cs h => IL.out x hx (d - 1) (mayL_mem HM.out.2.2.2.1 x hx) (by
      have h1 := prT_mem hx
      rw [HE.out] at hlen
      rw [← lsT_all] at h1
      simp at hlen
      omega) F w cs h)
    have HXL : Hid (∀ x ∈ v.l, (prV x).length ≤ 1000000000) := Lib.hid (fun x hx => by
      have h1 := prT_mem hx
      rw [HE.out] at hlen
      rw [← lsT_all] at h1
      simp at hlen
      omega)
    clear hk IL IM HM hlen
    go_enter Tryz.func31, Tryz.ntmps31
    go_upto_region 1 with fail
    rw [← hW1]
    clear hW1
    have p0 := box_cell HB.out.2 0
    go_wp2_with fail
    clear p0
    go_loopw [5, 6] (fun v5 v6 wr => ∃ (k : Nat) (A : List UInt8), k ≤ v.l.length ∧ v5 = str A ∧ v6 = .int .i64 (k : Int) ∧ Hid (A = 91 :: lsT v.l k) ∧ Hid (Below W1.heap.size W1 wr)) (fun _ v6 _ => v.l.length - (intOf v6).toNat)
    case atStart => exact ⟨0, [91], Nat.zero_le _, rfl, rfl, Lib.hid rfl, Lib.hid (Below.refl _ _)⟩
    case round =>
      obtain ⟨k, A, hk, rfl, rfl, HA, HW⟩ := hrel
      have HWW := Lib.hid (HB.out.1.trans (HW.out.mono HB.out.1.size))
      have b3 := box_cell (box_up HB.out.2 HW.out) 3
      have hAl : A.length ≤ 1000000001 := by have := HLL.out k hk; rw [HA.out]; simp; omega
      have l1 : ¬ 9223372036854775807 < A.length + 1 := by omega
      by_cases hlt : k < v.l.length
      · have n1 : (k : Int) < (v.l.length : Int) := by omega
        have n3 : (0 : Int) ≤ (k : Int) := by omega
        obtain ⟨b, off, a, n, c, a', n', c', rfl, _, hbw, hx, c0, c1, c2, c3, c4⟩ := RdJ.part HL.out.1 HL.out.2.1 hlt
        have HN : Hid (∀ h0 : k ≠ 0, lsT v.l (k + 1) = lsT v.l k ++ 44 :: prV v.l[k]) := Lib.hid (fun h0 => lsT_succ hlt h0)
        have HN0 : Hid (k = 0 → lsT v.l (k + 1) = prV v.l[k]) := Lib.hid (fun h0 => by subst h0; exact lsT_one hlt)
        have hxl := HXL.out _ (List.getElem_mem hlt)
        have CI := IX.out _ (List.getElem_mem hlt)
        obtain ⟨x, hxx⟩ : ∃ x, x = v.l[k] := ⟨_, rfl⟩
        rw [← hxx] at hx c0 c1 c2 HN HN0 hxl CI
        clear hxx
        have e0 : wr.cell? ⟨b, off + k * 5, none⟩ = some (.int .i64 x.kind) := (HWW.out.cell (p := ⟨b, off + k * 5, none⟩) hbw).trans c0
        have e1 : wr.cell? ⟨b, off + k * 5 + 1, none⟩ = some (.int .i64 x.n) := (HWW.out.cell (p := ⟨b, off + k * 5 + 1, none⟩) hbw).trans c1
        have e2 : wr.cell? ⟨b, off + k * 5 + 2, none⟩ = some (str x.s) := (HWW.out.cell (p := ⟨b, off + k * 5 + 2, none⟩) hbw).trans c2
        have e3 : wr.cell? ⟨b, off + k * 5 + 3, none⟩ = some (.slice a n c) := (HWW.out.cell (p := ⟨b, off + k * 5 + 3, none⟩) hbw).trans c3
        have e4 : wr.cell? ⟨b, off + k * 5 + 4, none⟩ = some (.slice a' n' c') := (HWW.out.cell (p := ⟨b, off + k * 5 + 4, none⟩) hbw).trans c4
        have CP := CI F wr _ (hx.up HWW.out)
        obtain ⟨X, hX⟩ : ∃ X, X = prV x := ⟨_, rfl⟩
        rw [← hX] at CP HN HN0 hxl
        have CP := Lib.hid CP
        clear hx c0 c1 c2 c3 c4 hbw hX CI
        have l2 : ¬ 9223372036854775807 < A.length + 1 + X.length := by omega
        have l3 : ¬ 9223372036854775807 < A.length + (1 + X.length) := by omega
        have l4 : ¬ 9223372036854775807 < A.length + X.length := by omega
        have l5 : ¬ 9223372036854775807 < A.length + (X.length + 1) := by omega
        clear hAl hxl
        by_cases h0 : k = 0
        · have y7 : decide ((0 : Int) < (k : Int)) = false := decide_eq_false (by omega)
          have y8 : decide (0 < k) = false := decide_eq_false (by omega)
          have y9 : ¬ 0 < k := by omega
          have y10 : ¬ (0 : Int) < (k : Int) := by omega
          have hz : lsT v.l k = [] := by rw [h0]; rfl
          have HQ : Hid (A ++ X = 91 :: lsT v.l (k + 1)) := Lib.hid (by rw [HA.out, HN0.out h0, hz]; simp)
          clear h0 HN HN0 hz
          go_wp2_with fail
          refine CP.out.mono ?_
          rintro e w2 ⟨rfl, hb2⟩
          have HX := Lib.hid (HW.out.trans (hb2.mono HW.out.size))
          clear hb2 CP
          go_wp2_with fail
          go_roundw
          case rel => exact ⟨k + 1, A ++ X, by omega, rfl, by go_num, HQ, HX⟩
          case measure => simp [intOf]; omega
        · have y7 : decide ((0 : Int) < (k : Int)) = true := decide_eq_true (by omega)
          have y8 : decide (0 < k) = true := decide_eq_true (by omega)
          have y9 : 0 < k := by omega
          have y10 : (0 : Int) < (k : Int) := by omega
          have HQ : Hid (A ++ 44 :: X = 91 :: lsT v.l (k + 1)) := Lib.hid (by rw [HA.out, HN.out h0]; simp)
          clear h0 HN HN0
          go_wp2_with fail
          refine CP.out.mono ?_
          rintro e w2 ⟨rfl, hb2⟩
          have HX := Lib.hid (HW.out.trans (hb2.mono HW.out.size))
          clear hb2 CP
          go_wp2_with fail
          go_roundw
          case rel => exact ⟨k + 1, A ++ 44 :: X, by omega, rfl, by go_num, HQ, HX⟩
          case measure => simp [intOf]; omega
      · obtain rfl : k = v.l.length := by omega
        have n2 : ¬ (v.l.length : Int) < (v.l.length : Int) := by omega
        clear hAl
        go_wp2_with fail
        go_ret
        exact ⟨by rw [HE.out, HA.out]; rfl, HWW.out⟩
  · as_aux_lemma =>
    have y6 : (v.kind == 6) = false := by rw [hk]; rfl
    have y1 : (v.kind == 1) = false := by rw [hk]; rfl
    have y2 : (v.kind == 2) = false := by rw [hk]; rfl
    have y3 : (v.kind == 3) = false := by rw [hk]; rfl
    have y4 : (v.kind == 4) = false := by rw [hk]; rfl
    have y5 : (v.kind == 5) = false := by rw [hk]; rfl
    have HE : Hid (prV v = 123 :: (obT v.m v.m.length ++ [125])) := Lib.hid (by rw [pr_kind, hk]; rfl)
    have HLL : Hid (∀ k, k ≤ v.m.length → (obT v.m k).length ≤ 1000000000) := Lib.hid (fun k hk' => by
      have h1 := obT_le v.m hk'
      rw [HE.out] at hlen
      rw [← obT_all] at h1
      simp at hlen
      omega)
    have HXL : Hid (∀ x ∈ v.m, (quo x.1).length + (prV x.2).length ≤ 1000000000) := Lib.hid (fun x hx => by
      have h1 := prU_mem hx
      rw [HE.out] at hlen
      rw [← obT_all] at h1
      simp at hlen
      omega)
    have IX : Hid (∀ x ∈ v.m, txF x.1 = true ∧ ∀ (F : Nat → Prop) (w : World) (cs : List Value), RdJ w F x.2 cs → Calls Tryz.prog 31 #[.agg cs.toArray] w fun e w' => e = .returned (str (prV x.2)) ∧ Below w.heap.size w w') := Lib.hid (fun x hx => ⟨(mayM_mem HM.out.2.2.2.2 x hx).1, fun F w cs h => IM.out x hx (d - 1) (mayM_mem HM.out.2.2.2.2 x hx).2 (by have := HXL.out x hx; omega) F w cs h⟩)
    clear hk IL IM HM hlen
    go_enter Tryz.func31, Tryz.ntmps31
    go_upto_region 1 with fail
    rw [← hW1]
    clear hW1
    have p0 := box_cell HB.out.2 0
    go_wp2_with fail
    clear p0
    go_loopw [7, 8] (fun v7 v8 wr => ∃ (k : Nat) (A : List UInt8), k ≤ v.m.length ∧ v7 = str A ∧ v8 = .int .i64 (k : Int) ∧ Hid (A = 123 :: obT v.m k) ∧ Hid (Below W1.heap.size W1 wr)) (fun _ v8 _ => v.m.length - (intOf v8).toNat)
    case atStart => exact ⟨0, [123], Nat.zero_le _, rfl, rfl, Lib.hid rfl, Lib.hid (Below.refl _ _)⟩
    case round =>
      obtain ⟨k, A, hk, rfl, rfl, HA, HW⟩ := hrel
      have HWW := Lib.hid (HB.out.1.trans (HW.out.mono HB.out.1.size))
      have b4 := box_cell (box_up HB.out.2 HW.out) 4
      have hAl : A.length ≤ 1000000001 := by have := HLL.out k hk; rw [HA.out]; simp; omega
      have l1 : ¬ 9223372036854775807 < A.length + 1 := by omega
      by_cases hlt : k < v.m.length
      · have n1 : (k : Int) < (v.m.length : Int) := by omega
        have n3 : (0 : Int) ≤ (k : Int) := by omega
        obtain ⟨b, off, a, n, c, a', n', c', rfl, _, hbw, hx, c0, c1, c2, c3, c4, c5⟩ := RdJ.memb HL.out.2.2.1 HL.out.2.2.2 hlt
        have HN : Hid (∀ h0 : k ≠ 0, obT v.m (k + 1) = obT v.m k ++ 44 :: (quo v.m[k].1 ++ 58 :: prV v.m[k].2)) := Lib.hid (fun h0 => obT_succ hlt h0)
        have HN0 : Hid (k = 0 → obT v.m (k + 1) = quo v.m[k].1 ++ 58 :: prV v.m[k].2) := Lib.hid (fun h0 => by subst h0; exact obT_one hlt)
        have hxl := HXL.out _ (List.getElem_mem hlt)
        have CI := IX.out _ (List.getElem_mem hlt)
        obtain ⟨x, hxx⟩ : ∃ x, x = v.m[k] := ⟨_, rfl⟩
        rw [← hxx] at hx c0 c1 c2 c3 HN HN0 hxl CI
        clear hxx
        obtain ⟨nm, x⟩ := x
        dsimp only at hx c0 c1 c2 c3 c4 c5 HN HN0 hxl CI
        have e0 : wr.cell? ⟨b, off + k * 6, none⟩ = some (str nm) := (HWW.out.cell (p := ⟨b, off + k * 6, none⟩) hbw).trans c0
        have e1 : wr.cell? ⟨b, off + k * 6 + 1, none⟩ = some (.int .i64 x.kind) := (HWW.out.cell (p := ⟨b, off + k * 6 + 1, none⟩) hbw).trans c1
        have e2 : wr.cell? ⟨b, off + k * 6 + 2, none⟩ = some (.int .i64 x.n) := (HWW.out.cell (p := ⟨b, off + k * 6 + 2, none⟩) hbw).trans c2
        have e3 : wr.cell? ⟨b, off + k * 6 + 3, none⟩ = some (str x.s) := (HWW.out.cell (p := ⟨b, off + k * 6 + 3, none⟩) hbw).trans c3
        have e4 : wr.cell? ⟨b, off + k * 6 + 4, none⟩ = some (.slice a n c) := (HWW.out.cell (p := ⟨b, off + k * 6 + 4, none⟩) hbw).trans c4
        have e5 : wr.cell? ⟨b, off + k * 6 + 5, none⟩ = some (.slice a' n' c') := (HWW.out.cell (p := ⟨b, off + k * 6 + 5, none⟩) hbw).trans c5
        have CQ := rquote_yes nm CI.1
        have CP : Hid (∀ W, Below wr.heap.size wr W → Calls Tryz.prog 31 #[.agg #[.int .i64 x.kind, .int .i64 x.n, str x.s, .slice a n c, .slice a' n' c']] W fun e w' => e = .returned (str (prV x)) ∧ Below W.heap.size W w') := Lib.hid (fun W h => CI.2 F W _ ((hx.up HWW.out).up h))
        obtain ⟨X, hX⟩ : ∃ X, X = prV x := ⟨_, rfl⟩
        obtain ⟨QN, hQN⟩ : ∃ QN, QN = quo nm := ⟨_, rfl⟩
        rw [← hX] at CP HN HN0 hxl
        rw [← hQN] at CQ HN HN0 hxl
        have CQ := Lib.hid CQ
        have hql : QN.length ≤ 1000000000 := by omega
        replace hxl : X.length ≤ 1000000000 := by omega
        clear hx c0 c1 c2 c3 c4 c5 hbw hX hQN CI
        by_cases h0 : k = 0
        · have y7 : decide ((0 : Int) < (k : Int)) = false := decide_eq_false (by omega)
          have y8 : decide (0 < k) = false := decide_eq_false (by omega)
          have y9 : ¬ 0 < k := by omega
          have y10 : ¬ (0 : Int) < (k : Int) := by omega
          have hz : obT v.m k = [] := by rw [h0]; rfl
          have HQ : Hid (A ++ (QN ++ 58 :: X) = 123 :: obT v.m (k + 1)) := Lib.hid (by rw [HA.out, HN0.out h0, hz]; simp)
          clear h0 HN HN0 hz
          go_upto_region 28 with fail
          obtain ⟨A2, hA2⟩ : ∃ A2, A2 = A := ⟨_, rfl⟩
          have h2l : A2.length ≤ 1000000002 := by rw [hA2]; first | omega | (simp; omega)
          rw [← hA2] at HQ
          subst hA2
          have l2 : ¬ 9223372036854775807 < QN.length + 1 := by omega
          have l3 : ¬ 9223372036854775807 < QN.length + 1 + X.length := by omega
          have l4 : ¬ 9223372036854775807 < QN.length + (1 + X.length) := by omega
          have l5 : ¬ 9223372036854775807 < QN.length + (X.length + 1) := by omega
          have l6 : ¬ 9223372036854775807 < A2.length + (QN.length + (X.length + 1)) := by omega
          have l7 : ¬ 9223372036854775807 < A2.length + (QN.length + 1 + X.length) := by omega
          have l8 : ¬ 9223372036854775807 < A2.length + (QN.length + (1 + X.length)) := by omega
          clear hAl hxl hql h2l l1
          go_wp2_with fail
          refine (CQ.out _).mono ?_
          rintro e w2 ⟨rfl, hb2⟩
          have HW2 := Lib.hid (HW.out.trans (hb2.mono HW.out.size))
          have HW3 := Lib.hid hb2
          have CP2 := Lib.hid (CP.out w2 HW3.out)
          have b4 := box_cell (box_up HB.out.2 HW2.out) 4
          replace e0 := (HW3.out.cell (p := ⟨b, off + k * 6, none⟩) (World.block_lt_of_cell? wr _ e0)).trans e0
          replace e1 := (HW3.out.cell (p := ⟨b, off + k * 6 + 1, none⟩) (World.block_lt_of_cell? wr _ e1)).trans e1
          replace e2 := (HW3.out.cell (p := ⟨b, off + k * 6 + 2, none⟩) (World.block_lt_of_cell? wr _ e2)).trans e2
          replace e3 := (HW3.out.cell (p := ⟨b, off + k * 6 + 3, none⟩) (World.block_lt_of_cell? wr _ e3)).trans e3
          replace e4 := (HW3.out.cell (p := ⟨b, off + k * 6 + 4, none⟩) (World.block_lt_of_cell? wr _ e4)).trans e4
          replace e5 := (HW3.out.cell (p := ⟨b, off + k * 6 + 5, none⟩) (World.block_lt_of_cell? wr _ e5)).trans e5
          clear hb2 CQ CP
          go_wp2_with fail
          refine CP2.out.mono ?_
          rintro e w3 ⟨rfl, hb3⟩
          have HX := Lib.hid (HW2.out.trans (hb3.mono HW2.out.size))
          clear hb3 CP2
          go_wp2_with fail
          go_roundw
          case rel => exact ⟨k + 1, A2 ++ (QN ++ 58 :: X), by omega, rfl, by go_num, HQ, HX⟩
          case measure => simp [intOf]; omega
        · have y7 : decide ((0 : Int) < (k : Int)) = true := decide_eq_true (by omega)
          have y8 : decide (0 < k) = true := decide_eq_true (by omega)
          have y9 : 0 < k := by omega
          have y10 : (0 : Int) < (k : Int) := by omega
          have HQ : Hid ((A ++ [44]) ++ (QN ++ 58 :: X) = 123 :: obT v.m (k + 1)) := Lib.hid (by rw [HA.out, HN.out h0]; simp)
          clear h0 HN HN0
          go_upto_region 28 with fail
          obtain ⟨A2, hA2⟩ : ∃ A2, A2 = (A ++ [44]) := ⟨_, rfl⟩
          have h2l : A2.length ≤ 1000000002 := by rw [hA2]; first | omega | (simp; omega)
          rw [← hA2] at HQ
          rw [← hA2]
          clear hA2
          have l2 : ¬ 9223372036854775807 < QN.length + 1 := by omega
          have l3 : ¬ 9223372036854775807 < QN.length + 1 + X.length := by omega
          have l4 : ¬ 9223372036854775807 < QN.length + (1 + X.length) := by omega
          have l5 : ¬ 9223372036854775807 < QN.length + (X.length + 1) := by omega
          have l6 : ¬ 9223372036854775807 < A2.length + (QN.length + (X.length + 1)) := by omega
          have l7 : ¬ 9223372036854775807 < A2.length + (QN.length + 1 + X.length) := by omega
          have l8 : ¬ 9223372036854775807 < A2.length + (QN.length + (1 + X.length)) := by omega
          clear hAl hxl hql h2l l1
          go_wp2_with fail
          refine (CQ.out _).mono ?_
          rintro e w2 ⟨rfl, hb2⟩
          have HW2 := Lib.hid (HW.out.trans (hb2.mono HW.out.size))
          have HW3 := Lib.hid hb2
          have CP2 := Lib.hid (CP.out w2 HW3.out)
          have b4 := box_cell (box_up HB.out.2 HW2.out) 4
          replace e0 := (HW3.out.cell (p := ⟨b, off + k * 6, none⟩) (World.block_lt_of_cell? wr _ e0)).trans e0
          replace e1 := (HW3.out.cell (p := ⟨b, off + k * 6 + 1, none⟩) (World.block_lt_of_cell? wr _ e1)).trans e1
          replace e2 := (HW3.out.cell (p := ⟨b, off + k * 6 + 2, none⟩) (World.block_lt_of_cell? wr _ e2)).trans e2
          replace e3 := (HW3.out.cell (p := ⟨b, off + k * 6 + 3, none⟩) (World.block_lt_of_cell? wr _ e3)).trans e3
          replace e4 := (HW3.out.cell (p := ⟨b, off + k * 6 + 4, none⟩) (World.block_lt_of_cell? wr _ e4)).trans e4
          replace e5 := (HW3.out.cell (p := ⟨b, off + k * 6 + 5, none⟩) (World.block_lt_of_cell? wr _ e5)).trans e5
          clear hb2 CQ CP
          go_wp2_with fail
          refine CP2.out.mono ?_
          rintro e w3 ⟨rfl, hb3⟩
          have HX := Lib.hid (HW2.out.trans (hb3.mono HW2.out.size))
          clear hb3 CP2
          go_wp2_with fail
          go_roundw
          case rel => exact ⟨k + 1, A2 ++ (QN ++ 58 :: X), by omega, rfl, by go_num, HQ, HX⟩
          case measure => simp [intOf]; omega
      · obtain rfl : k = v.m.length := by omega
        have n2 : ¬ (v.m.length : Int) < (v.m.length : Int) := by omega
        clear hAl
        go_wp2_with fail
        go_ret
        exact ⟨by rw [HE.out, HA.out]; rfl, HWW.out⟩
theorem rjprn_all (v : JV) : RPrnC v := JV.ind rjprn_step v
end Go.Proofs.YtidlhajibjnkeaaGreatDoor

/- hblref1.Print: the document's text of any value, or none. -/
namespace Go.Proofs.YtidlhajibjnkeaaGreatDoor
open Go.RowKit

set_option maxRecDepth 100000 in
set_option maxHeartbeats 4000000 in
theorem rPrint_any (v : JV) (hst : stV v) (hlen : mayV v 64 = true → (prV v).length ≤ 1000000) (F : Nat → Prop) (w : World) (cs : List Value) (h : RdJ w F v cs) :
    Calls Tryz.prog 14 #[.agg cs.toArray] w fun e w' => ∃ u, e = .returned (.tuple #[u, .int .i64 (if mayV v 64 = true then 0 else 4)]) ∧ Rd w' u (if mayV v 64 = true then prV v else []) ∧ Below w.heap.size w w' := by
  have CM : Hid (∀ W, Below w.heap.size w W → Calls Tryz.prog 22 #[.agg cs.toArray] W fun e w' => e = .returned (.bool (mayV v 64)) ∧ Below W.heap.size W w') := Lib.hid (fun W hb => rMay_any v hst F W cs (h.up hb))
  have CP : Hid (mayV v 64 = true → ∀ W, Below w.heap.size w W → Calls Tryz.prog 31 #[.agg cs.toArray] W fun e w' => e = .returned (str (prV v)) ∧ Below W.heap.size W w') := Lib.hid (fun hm W hb => rjprn_all v 64 hm (by have := hlen hm; omega) F W cs (h.up hb))
  have HLN := Lib.hid hlen
  obtain ⟨a1, n1, c1, a2, n2, c2, rfl, _, _⟩ := h.open
  obtain ⟨W1, hW1⟩ : ∃ W1, W1 = w.alloc (.cells #[.int .i64 v.kind, .int .i64 v.n, str v.s, .slice a1 n1 c1, .slice a2 n2 c2] 35) := ⟨_, rfl⟩
  have hb1 : Below w.heap.size w W1 := by rw [hW1]; exact below_alloc _ _
  have hbx : W1.heap[w.heap.size]? = some (.cells #[.int .i64 v.kind, .int .i64 v.n, str v.s, .slice a1 n1 c1, .slice a2 n2 c2] 35 (0, 0)) := by rw [hW1]; exact heap_alloc_new _ _
  have HB := Lib.hid (And.intro hb1 hbx)
  replace CM := Lib.hid (CM.out W1 hb1)
  clear hst hlen h hb1
  have p0 := box_cell hbx 0
  have p1 := box_cell hbx 1
  have p2 := box_cell hbx 2
  have p3 := box_cell hbx 3
  have p4 := box_cell hbx 4
  clear hbx
  cases hm : mayV v 64 with
  | false =>
    rw [hm] at CM
    clear hm CP HLN
    go_enter Tryz.func14, Tryz.ntmps14
    go_upto_region 1 with fail
    rw [← hW1]
    clear hW1
    go_wp2_with fail
    refine CM.out.mono ?_
    rintro e w2 ⟨rfl, hb2⟩
    have HX := Lib.hid (HB.out.1.trans (hb2.mono HB.out.1.size))
    clear hb2 CM p0 p1 p2 p3 p4
    go_wp2_with fail
    go_ret2
    exact ⟨_, rfl, Rd.nil _, HX.out⟩
  | true =>
    rw [hm] at CM
    have CP2 := Lib.hid (CP.out hm)
    have hl := HLN.out hm
    obtain ⟨T, hT⟩ : ∃ T, T = prV v := ⟨_, rfl⟩
    rw [← hT] at CP2 hl ⊢
    have HL9 := Lib.hid hl
    clear hm CP HLN hT hl
    go_enter Tryz.func14, Tryz.ntmps14
    go_upto_region 1 with fail
    rw [← hW1]
    clear hW1
    go_wp2_with fail
    refine CM.out.mono ?_
    rintro e w2 ⟨rfl, hb2⟩
    have H2 := Lib.hid (And.intro (HB.out.1.trans (hb2.mono HB.out.1.size)) (box_up HB.out.2 hb2))
    clear hb2 CM p0 p1 p2 p3 p4
    have p0 := box_cell H2.out.2 0
    have p1 := box_cell H2.out.2 1
    have p2 := box_cell H2.out.2 2
    have p3 := box_cell H2.out.2 3
    have p4 := box_cell H2.out.2 4
    have CP3 := Lib.hid (CP2.out w2 H2.out.1)
    go_wp2_with fail
    refine CP3.out.mono ?_
    rintro e w3 ⟨rfl, hb3⟩
    obtain ⟨cap, w4, hconv, hrd, hb4⟩ := bytes_run T w3 HL9.out
    have HX := Lib.hid (And.intro hrd ((H2.out.1.trans (hb3.mono H2.out.1.size)).trans (hb4.mono (Nat.le_trans H2.out.1.size hb3.size))))
    clear hb3 hrd hb4 CP2 CP3 p0 p1 p2 p3 p4
    go_wp2_with fail
    go_ret2
    exact ⟨_, rfl, HX.out.1, HX.out.2⟩
end Go.Proofs.YtidlhajibjnkeaaGreatDoor

/- hbllaw4.JsonWrites: what it calls, each in one form. -/
namespace Go.Proofs.YtidlhajibjnkeaaGreatDoor
open Go.RowKit

mutual
/-- What is small has no long text. -/
theorem stV_sz : ∀ (v : JV), szV v ≤ 1000000 → stV v
  | .mk k n s l m, h => by
    rw [szV] at h
    unfold stV
    exact ⟨by omega, stL_sz l (by omega), stM_sz m (by omega)⟩
theorem stL_sz : ∀ (l : List JV), szL l ≤ 1000000 → stL l
  | [], _ => by unfold stL; trivial
  | v :: t, h => by
    rw [szL] at h
    unfold stL
    exact ⟨stV_sz v (by omega), stL_sz t (by omega)⟩
theorem stM_sz : ∀ (l : List MemT), szM l ≤ 1000000 → stM l
  | [], _ => by unfold stM; trivial
  | (a, v) :: t, h => by
    rw [szM] at h
    unfold stM
    exact ⟨by omega, stV_sz v (by omega), stM_sz t (by omega)⟩
end
/-- Print, in one form. -/
theorem print_one {F : Nat → Prop} {w : World} {v : JV} {cs : List Value} (h : RdJ w F v cs) (hl : szV v ≤ 12000) (ht : TabJ w.heap.size w) :
    Calls Tryz.prog 13 #[.agg cs.toArray] w fun e w' => ∃ u, e = .returned (.tuple #[u, .int .i64 (if mayV v 64 = true then 0 else 4)]) ∧ Rd w' u (if mayV v 64 = true then prV v else []) ∧ Below w.heap.size w w' := by
  cases hm : mayV v 64 with
  | true =>
    have := prV_len v 64 hm
    refine (print_yes h hm (by omega) ht).mono ?_
    rintro e w' ⟨u, rfl, ho, hb⟩
    exact ⟨u, rfl, ho.rd, hb⟩
  | false =>
    refine (print_no h hm).mono ?_
    rintro e w' ⟨rfl, hb⟩
    exact ⟨_, rfl, Rd.nil w', hb⟩
/-- Get, in one form. -/
theorem get_one (v : JV) (nm : List UInt8) (hsz : szV v ≤ 1000000000) (F : Nat → Prop) (w : World) (cs : List Value) (h : RdJ w F v cs) :
    Calls Tryz.prog 15 #[.agg cs.toArray, str nm] w fun e w' => ∃ cs', e = .returned (.tuple #[.agg cs'.toArray, .bool (getJ v nm).isSome]) ∧ RdJ w' (fun _ => True) ((getJ v nm).getD (.mk 0 0 [] [] [])) cs' ∧ Below w.heap.size w w' := by
  refine (get_any v nm hsz F w cs h).mono ?_
  intro e w' hg
  unfold GetP at hg
  cases hx : getJ v nm with
  | none =>
    rw [hx] at hg
    obtain ⟨rfl, hb⟩ := hg
    refine ⟨[.int .i64 0, .int .i64 0, str [], .slice none 0 0, .slice none 0 0], rfl, ?_, hb⟩
    unfold RdJ
    exact ⟨_, _, rfl, ⟨[], RdFB.nil _ _ _, by unfold RdL; trivial⟩, [], RdFB.nil _ _ _, by unfold RdM; trivial⟩
  | some x =>
    rw [hx] at hg
    obtain ⟨cs', rfl, hr, hb⟩ := hg
    exact ⟨cs', rfl, hr.mono (fun _ _ _ => trivial), hb⟩
end Go.Proofs.YtidlhajibjnkeaaGreatDoor
