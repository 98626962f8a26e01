/- TokenBack: the walk of tokens that may be (may: told, cut, more, turned). -/
import Derived.Test.YtfibplegbaanmaaDoorKBack
import Derived.Deep.RegionHeld3
import Derived.Deep.RegionWith
namespace Go.Proofs.YtfibplegbaanmaaDoor
open Go.RowKit

theorem str_cat (a b : List UInt8) : ByteArray.mk a.toArray ++ ByteArray.mk b.toArray = ByteArray.mk (a ++ b).toArray := by
  apply ByteArray.ext
  simp
theorem below_da (w : World) (o : Obj) : Below w.heap.size w (w.drew.alloc o) := ((Below.refl _ _).drew).alloc (Nat.le_refl _) _
theorem below_ad (w : World) (o : Obj) : Below w.heap.size w (w.alloc o).drew := ((Below.refl _ _).alloc (Nat.le_refl _) _).drew
theorem below_aad (w : World) (o o2 : Obj) : Below w.heap.size w ((w.alloc o).alloc o2).drew := (((Below.refl _ _).alloc (Nat.le_refl _) _).alloc (by simp) _).drew
theorem tkA (w : World) (x : Int) (E T : TypeId) : TK ((w.alloc (.cells #[.int .u8 x] E)).alloc (.cells #[.string { data := #[] }, .int .i64 0, .int .i64 0, .string { data := #[] }] T)).drew (w.heap.size + 1) [] 0 0 [] := by
  have h := heap_alloc_new (w.alloc (.cells #[.int .u8 x] E)) (.cells #[.string { data := #[] }, .int .i64 0, .int .i64 0, .string { data := #[] }] T)
  have e : (w.alloc (.cells #[.int .u8 x] E)).heap.size = w.heap.size + 1 := by simp
  rw [e] at h
  exact ⟨T, h⟩
theorem tkB (w : World) (x : Int) (E T : TypeId) : TK ((w.alloc (.cells #[.string { data := #[] }, .int .i64 0, .int .i64 0, .string { data := #[] }] T)).alloc (.cells #[.int .u8 x] E)).drew w.heap.size [] 0 0 [] := by
  have h := TK.below (TK.made w [] [] 0 0 T) (below_alloc _ (.cells #[.int .u8 x] E)) (TK.made w [] [] 0 0 T).lt
  exact h
theorem tk_all {W W' : World} {b : Nat} {u k : List UInt8} {f t : Int} (h : TK W b u f t k) (hb : Below W.heap.size W W') :
    W'.cell? ⟨b, 0, none⟩ = some (str u) ∧ W'.cell? ⟨b, 1, none⟩ = some (.int .i64 f) ∧ W'.cell? ⟨b, 2, none⟩ = some (.int .i64 t) ∧ W'.cell? ⟨b, 3, none⟩ = some (str k) ∧
    W'.frozen? ⟨b, 0, none⟩ = false ∧ W'.frozen? ⟨b, 1, none⟩ = false ∧ W'.frozen? ⟨b, 2, none⟩ = false ∧ W'.frozen? ⟨b, 3, none⟩ = false := by
  have g := h.below hb h.lt
  exact ⟨g.c0, g.c1, g.c2, g.c3, g.fr 0, g.fr 1, g.fr 2, g.fr 3⟩
theorem tok_neq (u k : List UInt8) (f t : Int) (W : World) : (binOp .neq 28 (tok u f t k) (tok u f t k)).run Tryd.prog W = .ok (.bool false) W := by
  have hS : Tryd.prog.underlying 28 = some (.struct (Tryd.prog.fieldsOf 28)) := by kernel_rfl
  have hp : Tryd.prog.stoodInHeld 28 = false := by kernel_rfl
  rw [run_neq_struct, show (10000 : Nat) = 9999 + 1 from rfl, run_equalIn_agg W 9999 28 _ _ hS hp]
  simp only [Program.fieldsOf, Tryd.underlying28]
  go_simp
set_option maxRecDepth 100000 in
set_option maxHeartbeats 6400000 in
theorem kback_yes (u k : List UInt8) (f t : Int) (a d c : Int) (w : World) (hu : u.length ≤ 9223372036854775807) (hk : k.length ≤ 9223372036854775807) (hf : -9223372036854775808 ≤ f ∧ f ≤ 9223372036854775807) (ht : -9223372036854775808 ≤ t ∧ t ≤ 9223372036854775807)
    (ha : 0 ≤ a ∧ a ≤ 9223372036854775807) (hd : 0 ≤ d ∧ d ≤ 9223372036854775807) (hc : 0 ≤ c ∧ c ≤ 9223372036854775807) (hT : Tab w) (hu3 : ¬ 3000 < u.length) (hk3 : ¬ 3000 < k.length) (hm : mayB u f t k = true) :
    Calls Tryd.prog 4 #[tok u f t k, .int .i64 a, .int .i64 d, .int .i64 c] w fun e w' => e = .returned (.bool true) ∧ Below w.heap.size w w' := by
  obtain ⟨ha1, ha2⟩ := ha
  obtain ⟨hd1, hd2⟩ := hd
  obtain ⟨hc1, hc2⟩ := hc
  have HTab := Lib.hid hT
  have P1 := Lib.hid (fun W h => print_any u k f t W hu hk hf ht h)
  have M1 := Lib.hid (fun W => may_any u k f t W hu hk hf ht)
  have PL := Lib.hid (fun W => plain_any u k f t W)
  have hA := below_alloc w (.cells #[str u, .int .i64 f, .int .i64 t, str k] 23)
  have HK1 := Lib.hid (TK.made w u k f t 23)
  have hpe : printE u f t k = .returned (.tuple #[str (textT u f.toNat t.toNat k), .int .i64 0]) := by rw [printE, hm]; rfl
  have CT := Lib.hid (fun W h => parse_told u k f t W hm h)
  have CC := Lib.hid (fun (n : Nat) (W : World) (h : Tab W) => parse_cut u k f t n W hm h)
  have CM := Lib.hid (fun W h => parse_more u k f t W hm h)
  have CU := Lib.hid (fun (n : Nat) (x : UInt8) (W : World) (h : Tab W) => parse_turn u k f t n x W h)
  have hbd := mayB_bounds hm
  obtain ⟨X, hX⟩ : ∃ X, X = textT u f.toNat t.toNat k := ⟨_, rfl⟩
  rw [← hX] at hpe CT CC CM CU
  have hlen : X.length ≤ 1000 ∧ 18 ≤ X.length := by
    obtain ⟨b1, b2, b3, b4, b5, b6, b7⟩ := hbd
    rw [hX, textT, hexL_length, List.length_append, putL_length]
    unfold bodyT
    have v1 : (varL f.toNat).length ≤ 8 := varL_len 7 _ (by omega)
    have v2 : (varL t.toNat).length ≤ 8 := varL_len 7 _ (by omega)
    have v3 : (varL u.length).length ≤ 8 := varL_len 7 u.length (by omega)
    have v4 : (varL k.length).length ≤ 8 := varL_len 7 k.length (by omega)
    have w1 := varL_pos f.toNat
    have w2 := varL_pos t.toNat
    have w3 := varL_pos u.length
    have w4 := varL_pos k.length
    simp only [List.length_append]; omega
  obtain ⟨hl1, hl2⟩ := hlen
  have HPE := Lib.hid hpe
  have HM := Lib.hid hm
  have HX := Lib.hid hX
  obtain ⟨kk, hkk⟩ : ∃ kk : Nat, a % (X.length : Int) = (kk : Int) := ⟨(a % (X.length : Int)).toNat, by have := Int.emod_nonneg a (show (X.length : Int) ≠ 0 by omega); omega⟩
  obtain ⟨cc, hcc⟩ : ∃ cc : Nat, c % (X.length : Int) = (cc : Int) := ⟨(c % (X.length : Int)).toNat, by have := Int.emod_nonneg c (show (X.length : Int) ≠ 0 by omega); omega⟩
  obtain ⟨dd, hdd⟩ : ∃ dd : Nat, d % 16 = (dd : Int) := ⟨(d % 16).toNat, by omega⟩
  have hkl : kk < X.length := by have := Int.emod_lt_of_pos a (show (0 : Int) < (X.length : Int) by omega); omega
  have hcl : cc < X.length := by have := Int.emod_lt_of_pos c (show (0 : Int) < (X.length : Int) by omega); omega
  have hdl : dd < 16 := by omega
  have hgd : (ByteArray.mk #[48, 49, 50, 51, 52, 53, 54, 55, 56, 57, 97, 98, 99, 100, 101, 102])[dd]'hdl = hexS dd := by
    have := hex_all ⟨dd, hdl⟩
    exact UInt8.toNat_inj.1 this
  obtain ⟨D, hD⟩ : ∃ D, D = hexS dd := ⟨_, rfl⟩
  rw [← hD] at hgd
  have hcut : (ByteArray.mk X.toArray).extract 0 cc = ByteArray.mk (X.take cc).toArray := by rw [str_cut]; simp
  have hcat := str_cat X [48, 48]
  have q1 : ¬ ((X.length : Int) < 18) := by omega
  have q2 : (0 : Int) ≤ (cc : Int) := by omega
  have q3 : (cc : Int) ≤ (X.length : Int) := by omega
  have q4 : (0 : Int) ≤ (dd : Int) := by omega
  have q5 : (dd : Int) < 16 := by omega
  have q6 : (0 : Int) < (X.length : Int) := by omega
  have q7 : ((X.length : Int) == 0) = false := by rw [beq_eq_false_iff_ne]; omega
  have q8 : ¬ (9223372036854775807 < X.length + 2) := by omega
  have k1 : ¬ (3000 : Int) < (u.length : Int) := by omega
  have k2 : ¬ (3000 : Int) < (k.length : Int) := by omega
  clear hX hpe hm hT hbd hD hu3 hk3
  go_enter Tryd.func4, Tryd.ntmps4
  go_wp2_with fail
  refine (kfirst_any _ (HTab.out.below hA (Nat.le_refl _))).mono ?_
  rintro e w1 ⟨rfl, hb1⟩
  have K1 := HK1.out.below hb1 HK1.out.lt
  have hW1 := hA.trans (hb1.mono hA.size)
  clear hb1
  have x0 := K1.c0
  have x1 := K1.c1
  have x2 := K1.c2
  have x3 := K1.c3
  go_wp2_with fail
  refine (P1.out _ (HTab.out.below hW1 (Nat.le_refl _))).mono ?_
  rintro e w2 ⟨rfl, hb2⟩
  rw [HPE.out]
  have K2 := K1.below hb2 K1.lt
  have hW2 := hW1.trans (hb2.mono hW1.size)
  clear hb2 x0 x1 x2 x3 K1
  have x0 := K2.c0
  have x1 := K2.c1
  have x2 := K2.c2
  have x3 := K2.c3
  go_wp2_with fail
  refine (M1.out _).mono ?_
  rintro e w3 ⟨rfl, hb3⟩
  rw [HM.out]
  have K3 := K2.below hb3 K2.lt
  have hW3 := hW2.trans (hb3.mono hW2.size)
  clear hb3 x0 x1 x2 x3 K2
  go_wp2_with fail
  refine (CT.out _ (HTab.out.below hW3 (Nat.le_refl _))).mono ?_
  rintro e w4 ⟨rfl, hb4⟩
  have K4 := K3.below hb4 K3.lt
  have hW4 := hW3.trans (hb4.mono hW3.size)
  clear hb4 K3
  go_wp2_with fail
  have KB := TK.made w4 u k f t 23
  have hbB := below_alloc w4 (.cells #[str u, .int .i64 f, .int .i64 t, str k] 23)
  have KA := K4.below hbB K4.lt
  have hWA := hW4.trans (hbB.mono hW4.size)
  clear K4 hbB
  refine (CC.out cc _ (HTab.out.below hWA (Nat.le_refl _)) hcl hl1).mono ?_
  rintro e w5 ⟨rfl, hb5⟩
  have KA5 := KA.below hb5 KA.lt
  have KB5 := KB.below hb5 KB.lt
  have hW5 := hWA.trans (hb5.mono hWA.size)
  clear hb5 KA KB hWA
  go_wp2_with fail
  have hbC := below_alloc w5 (.cells #[str [], .int .i64 0, .int .i64 0, str []] 23)
  have KA6 := KA5.below hbC KA5.lt
  have KB6 := KB5.below hbC KB5.lt
  have hW6 := hW5.trans (hbC.mono hW5.size)
  clear hbC KA5 KB5
  refine (CM.out _ (HTab.out.below hW6 (Nat.le_refl _)) hl1).mono ?_
  rintro e w7 ⟨rfl, hb7⟩
  have KA7 := KA6.below hb7 KA6.lt
  have KB7 := KB6.below hb7 KB6.lt
  have hW7 := hW6.trans (hb7.mono hW6.size)
  clear hb7 KA6 KB6 hW6
  go_wp2_with fail
  have hbE := below_alloc w7 (.cells #[str [], .int .i64 0, .int .i64 0, str []] 23)
  have KA8 := KA7.below hbE KA7.lt
  have KB8 := KB7.below hbE KB7.lt
  have hW8 := hW7.trans (hbE.mono hW7.size)
  clear hbE KA7 KB7
  generalize w7.alloc (.cells #[str [], .int .i64 0, .int .i64 0, str []] 23) = w8 at KA8 KB8 hW8 ⊢
  have HKD := Lib.hid (show TK w8.drew w.heap.size u f t k ∧ TK w8.drew w4.heap.size u f t k from ⟨KA8, KB8⟩)
  have HW8 := Lib.hid (show Below w.heap.size w w8.drew from Below.drewsN hW8 1)
  have hneq := tok_neq u k f t
  clear KA8 KB8 hW8
  go_region_held3 (fun w' => w'.cell? ⟨w.heap.size, 0, none⟩ = some (str u) ∧ w'.cell? ⟨w.heap.size, 1, none⟩ = some (.int .i64 f) ∧ w'.cell? ⟨w.heap.size, 2, none⟩ = some (.int .i64 t) ∧ w'.cell? ⟨w.heap.size, 3, none⟩ = some (str k) ∧
      w'.cell? ⟨w4.heap.size, 0, none⟩ = some (str u) ∧ w'.cell? ⟨w4.heap.size, 1, none⟩ = some (.int .i64 f) ∧ w'.cell? ⟨w4.heap.size, 2, none⟩ = some (.int .i64 t) ∧ w'.cell? ⟨w4.heap.size, 3, none⟩ = some (str k))
    (first
      | (refine keep8 ?_ hb9; assumption)
      | (exact cells8' (two_below HKD.out hb9))
      | (exact cells8' HKD.out)
      | go_keep)
    ((first
      | (go_at_call 8
         (with_reducible refine (PL.out _).mono ?_)
         rintro e w9 ⟨rfl, hb9⟩)
      | fail))
  obtain ⟨v8, hx, hy⟩ : ∃ v, Below w8.drew.heap.size w8.drew v ∧ Below v.heap.size v w9 := ⟨_, by assumption, hb9⟩
  have hWx := HW8.out.trans (hx.mono HW8.out.size)
  have hW9 := hWx.trans (hy.mono hWx.size)
  clear hx hy hWx hneq hb9
  obtain ⟨S, hS⟩ : ∃ S, S = X.set kk D := ⟨_, rfl⟩
  have hset : X.take kk ++ [D] ++ X.drop (kk + 1) = S := by rw [hS, List.set_eq_take_append_cons_drop, if_pos hkl]; simp
  have hs1 : (ByteArray.mk X.toArray).extract 0 kk = ByteArray.mk (X.take kk).toArray := by rw [str_cut]; simp
  have hs2 : (ByteArray.mk X.toArray).extract (kk + 1) X.length = ByteArray.mk (X.drop (kk + 1)).toArray := by rw [str_cut, List.take_of_length_le (by simp)]
  obtain ⟨p1, hp1⟩ : ∃ p1, p1 = X.take kk := ⟨_, rfl⟩
  obtain ⟨p3, hp3⟩ : ∃ p3, p3 = X.drop (kk + 1) := ⟨_, rfl⟩
  rw [← hp1] at hs1 hset
  rw [← hp3] at hs2 hset
  have hc1 := str_cat p1 [D]
  have hc2 : ByteArray.mk (p1 ++ [D]).toArray ++ ByteArray.mk p3.toArray = ByteArray.mk S.toArray := by rw [str_cat, hset]
  have l1 : p1.length = kk := by rw [hp1]; simp; omega
  have l3 : p3.length = X.length - (kk + 1) := by rw [hp3]; simp
  have hconv : (convert 37 9 (.slice (some ⟨w9.heap.size, 0, none⟩) 1 1)).run Tryd.prog (w9.drew.alloc (.cells #[.int .u8 (D.toNat : Int)] 5)) = .ok (str [D]) (w9.drew.alloc (.cells #[.int .u8 (D.toNat : Int)] 5)) :=
    bt.toString (S := 9) Tryd.underlying9 (Rd.one 5 w9.drew D _ rfl)
  have hconv2 : (convert 37 9 (.slice (some ⟨w9.heap.size, 0, none⟩) 1 1)).run Tryd.prog (w9.alloc (.cells #[.int .u8 (D.toNat : Int)] 5)).drew = .ok (str [D]) (w9.alloc (.cells #[.int .u8 (D.toNat : Int)] 5)).drew :=
    bt.toString (S := 9) Tryd.underlying9 ((Rd.one 5 w9 D _ rfl).drew1)
  have hconv3 : (convert 37 9 (.slice (some ⟨w9.heap.size + 1, 0, none⟩) 1 1)).run Tryd.prog ((w9.alloc (.cells #[.string { data := #[] }, .int .i64 0, .int .i64 0, .string { data := #[] }] 23)).alloc (.cells #[.int .u8 (D.toNat : Int)] 5)).drew = .ok (str [D]) ((w9.alloc (.cells #[.string { data := #[] }, .int .i64 0, .int .i64 0, .string { data := #[] }] 23)).alloc (.cells #[.int .u8 (D.toNat : Int)] 5)).drew :=
    bt.toString (S := 9) Tryd.underlying9 ((Rd.oneAt 5 (w9.alloc (.cells #[.string { data := #[] }, .int .i64 0, .int .i64 0, .string { data := #[] }] 23)) D _ (w9.heap.size + 1) rfl (by simp)).drew1)
  have hconv4 : (convert 37 9 (.slice (some ⟨w9.heap.size, 0, none⟩) 1 1)).run Tryd.prog ((w9.alloc (.cells #[.int .u8 (D.toNat : Int)] 5)).alloc (.cells #[.string { data := #[] }, .int .i64 0, .int .i64 0, .string { data := #[] }] 23)).drew = .ok (str [D]) ((w9.alloc (.cells #[.int .u8 (D.toNat : Int)] 5)).alloc (.cells #[.string { data := #[] }, .int .i64 0, .int .i64 0, .string { data := #[] }] 23)).drew :=
    bt.toString (S := 9) Tryd.underlying9 (((Rd.one 5 w9 D _ rfl).alloc _).drew1)
  have r1 : ¬ (9223372036854775807 < p1.length + 1) := by omega
  have r2 : ¬ (9223372036854775807 < p1.length + 1 + p3.length) := by omega
  have r3 : IntKind.i64.wrap ((kk : Int) + 1) = (kk : Int) + 1 := IntWalk.i64_in _ ⟨by omega, by omega⟩
  have r4 : (0 : Int) ≤ (kk : Int) := by omega
  have r5 : (kk : Int) ≤ (X.length : Int) := by omega
  have r6 : (0 : Int) ≤ (kk : Int) + 1 := by omega
  have r7 : (kk : Int) + 1 ≤ (X.length : Int) := by omega
  have r8 : ((kk : Int) + 1).toNat = kk + 1 := by omega
  have r9 : (kk : Int) < (X.length : Int) := by omega
  obtain ⟨E, hE⟩ : ∃ E, E = X[kk] := ⟨_, rfl⟩
  have hgk : (ByteArray.mk X.toArray)[kk]'(by simpa [ByteArray.size] using hkl) = E := hE.symm
  have CS : ∃ (b : Bool) (R : Value) (er : Int), ((er == 0) = b ∧ (((E.toNat : Int) == (D.toNat : Int)) = b)) ∧ (∃ (u2 k2 : List UInt8) (f2 t2 : Int), R = tok u2 f2 t2 k2) ∧
      ∀ W, Tab W → Calls Tryd.prog 10 #[str S] W fun e w' => e = .returned (.tuple #[R, .int .i64 er]) ∧ Below W.heap.size W w' := by
    by_cases hXD : E = D
    · refine ⟨true, tok u f t k, 0, ⟨rfl, by rw [hXD]; exact beq_self_eq_true _⟩, ⟨u, k, f, t, rfl⟩, fun W h => ?_⟩
      have : S = X := by rw [hS, ← hXD, hE, List.set_getElem_self]
      rw [this]; exact CT.out W h
    · refine ⟨false, tok [] 0 0 [], 14, ⟨rfl, by rw [beq_eq_false_iff_ne]; intro h; exact hXD (UInt8.toNat_inj.1 (by omega))⟩, ⟨[], [], 0, 0, rfl⟩, fun W h => ?_⟩
      rw [hS]
      exact CU.out kk D W h hkl (by rw [List.getElem?_eq_getElem hkl, ← hE]; exact fun h => hXD (Option.some.inj h)) hl1
  obtain ⟨bb, R, er, ⟨z1, z2⟩, ⟨u9, k9, f9, t9, rfl⟩, hcs⟩ := CS
  have HCS := Lib.hid hcs
  have HT9 := Lib.hid (fun (W : World) (h : Below w9.heap.size w9 W) => HTab.out.below (hW9.trans (h.mono hW9.size)) (Nat.le_refl _))
  clear hcs hS hset hp1 hp3 l1 l3 hE hcut hcat
  cases bb
  all_goals
    go_wp2_with fail
    go_region_with (first
      | (go_at_call 10
         (with_reducible refine (HCS.out _ (HT9.out _ (below_ad _ _))).mono ?_)
         rintro e w10 ⟨rfl, hb10⟩)
      | (go_at_call 10
         (with_reducible refine (HCS.out _ (HT9.out _ (below_aad _ _ _))).mono ?_)
         rintro e w10 ⟨rfl, hb10⟩
         have hh := tk_all (tkA _ _ _ _) hb10
         obtain ⟨h10, h11, h12, h13, g10, g11, g12, g13⟩ := hh)
      | (go_at_call 10
         (with_reducible refine (HCS.out _ (HT9.out _ (below_aad _ _ _))).mono ?_)
         rintro e w10 ⟨rfl, hb10⟩
         have hh := tk_all (tkB _ _ _ _) hb10
         obtain ⟨h10, h11, h12, h13, g10, g11, g12, g13⟩ := hh)
      | fail)
    all_goals
      go_wp2_with fail
      first
        | (have hbX : Below w.heap.size w w10 := hW9.trans (((below_ad _ _).trans (hb10.mono (below_ad _ _).size)).mono hW9.size)
           refine (kfirst_any _ (HTab.out.below (hbX.alloc hbX.size _) (Nat.le_refl _))).mono ?_
           have hbY := hbX.alloc hbX.size (.cells #[str u9, .int .i64 f9, .int .i64 t9, str k9] 23)
           rintro e w11 ⟨rfl, hb11⟩
           have HBZ := Lib.hid (hbY.trans (hb11.mono hbY.size))
           clear hbY hbX hb11)
        | (have hbX : Below w.heap.size w w10 := hW9.trans (((below_aad _ _ _).trans (hb10.mono (below_aad _ _ _).size)).mono hW9.size)
           have hbY := (((hbX.setCell (p := ⟨w9.heap.size + 1, 0, none⟩) (Nat.le_succ_of_le hW9.size) (str u9)).setCell (p := ⟨w9.heap.size + 1, 1, none⟩) (Nat.le_succ_of_le hW9.size) (.int .i64 f9)).setCell (p := ⟨w9.heap.size + 1, 2, none⟩) (Nat.le_succ_of_le hW9.size) (.int .i64 t9)).setCell (p := ⟨w9.heap.size + 1, 3, none⟩) (Nat.le_succ_of_le hW9.size) (str k9)
           with_reducible refine (kfirst_any _ (HTab.out.below hbY (Nat.le_refl _))).mono ?_
           rintro e w11 ⟨rfl, hb11⟩
           have HBZ := Lib.hid (hbY.trans (hb11.mono hbY.size))
           clear hbY hbX hb11)
        | (have hbX : Below w.heap.size w w10 := hW9.trans (((below_aad _ _ _).trans (hb10.mono (below_aad _ _ _).size)).mono hW9.size)
           have hbY := (((hbX.setCell (p := ⟨w9.heap.size, 0, none⟩) hW9.size (str u9)).setCell (p := ⟨w9.heap.size, 1, none⟩) hW9.size (.int .i64 f9)).setCell (p := ⟨w9.heap.size, 2, none⟩) hW9.size (.int .i64 t9)).setCell (p := ⟨w9.heap.size, 3, none⟩) hW9.size (str k9)
           with_reducible refine (kfirst_any _ (HTab.out.below hbY (Nat.le_refl _))).mono ?_
           rintro e w11 ⟨rfl, hb11⟩
           have HBZ := Lib.hid (hbY.trans (hb11.mono hbY.size))
           clear hbY hbX hb11)
        | fail
      go_wp2_with fail
      go_ret
      exact ⟨rfl, HBZ.out⟩
end Go.Proofs.YtfibplegbaanmaaDoor
