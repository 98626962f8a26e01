import Derived.Test.YtegblhmcfemfgaaGreatDoorJValP
import Derived.Test.YtegblhmcfemfgaaGreatDoorJDef
import Derived.Test.YtegblhmcfemfgaaGreatDoorTRound
namespace Go.Proofs.YtegblhmcfemfgaaGreatDoor
open Go.RowKit
theorem at_pre (pre : List UInt8) (c : UInt8) (t : List UInt8) : (pre ++ c :: t)[pre.length]? = some c := by simp
theorem valP_at {t : List UInt8} {d p : Nat} {c : UInt8} (h : t[p]? = some c) (hc : isBl c = false) : valP t (d + 1) p = casP (lstP (valP t d) t) (objP (valP t d) t) t c p := by
 have hs := skp_no h hc
 rw [valP, hs, h]
theorem behP_end {t : List UInt8} {p : Nat} {c : UInt8} (h : t[p]? = some c) (hc : isBl c = false) : behP t c p = .ok true (p + 1) := by
 unfold behP
 rw [skp_no h hc, h]
 simp
theorem behP_more {t : List UInt8} {p : Nat} {c : UInt8} (h : t[p]? = some 44) (hc : c ≠ 44) : behP t c p = .ok false (p + 1) := by
 unfold behP
 rw [skp_no h (by decide), h]
 simp [Ne.symm hc]
theorem wrdP_pr : ∀ (w pre rest : List UInt8), wrdP (pre ++ (w ++ rest)) w pre.length = 0
 | [], pre, rest => rfl
 | c :: t, pre, rest => by
   rw [wrdP]
   simp only [List.cons_append]
   rw [at_pre]
   dsimp only
   rw [if_pos rfl]
   have := wrdP_pr t (pre ++ [c]) rest
   simpa using this
theorem txtP_pr (pre s rest : List UInt8) (h : txF s = true) : txtP (pre ++ (quo s ++ rest)) pre.length = .ok s (pre.length + (quo s).length) := by
 simp only [txF, Bool.and_eq_true, decide_eq_true_eq] at h
 have hu := unq_quoted pre s rest h.2
 unfold txtP
 have e : pre ++ (quo s ++ rest) = pre ++ (34 :: qbL s ++ [34]) ++ rest := by unfold quo; simp
 rw [e, hu]
 dsimp only
 rw [if_neg (by simp), if_neg (by omega)]
 rfl
theorem mayM_sorted : ∀ (m : List MemT) (p : Option (List UInt8)) (d : Nat), mayM m p d = true → m.Pairwise (fun a b => Op.bytesLess a.1 b.1 = true) ∧ ∀ q, p = some q → ∀ x ∈ m, Op.bytesLess q x.1 = true
 | [], _, _, _ => ⟨List.Pairwise.nil, by simp⟩
 | (nm, v) :: t, p, d, h => by
   simp only [mayM, Bool.and_eq_true] at h
   obtain ⟨⟨⟨h1, _⟩, _⟩, h2⟩ := h
   obtain ⟨h3, h4⟩ := mayM_sorted t (some nm) d h2
   refine ⟨List.pairwise_cons.2 ⟨fun x hx => h4 nm rfl x hx, h3⟩, ?_⟩
   rintro q rfl x hx
   rcases List.mem_cons.1 hx with rfl | hx
   · exact h1
   exact bl_tr _ _ _ h1 (h4 nm rfl x hx)
theorem mayM_nodup {m : List MemT} {p : Option (List UInt8)} {d : Nat} (h : mayM m p d = true) : (m.map (fun m => m.1)).Nodup := by
 have h1 := (mayM_sorted m p d h).1
 rw [List.Nodup, List.pairwise_map]
 exact h1.imp (fun h e => by rw [e, bl_irr] at h; cases h)
theorem mayM_srt {m : List MemT} {p : Option (List UInt8)} {d : Nat} (h : mayM m p d = true) : srtM m = m := by
 refine (srt_eq (List.Perm.refl m) ?_ (mayM_nodup h)).symm
 exact (mayM_sorted m p d h).1.imp (fun {a b} h => by
  cases h2 : Op.bytesLess b.1 a.1 with
  | false => rfl
  | true => have := bl_tr _ _ _ h h2; rw [bl_irr] at this; cases this)
theorem casP_num {lst : Nat → JR (List JV)} {obj : Nat → JR (List MemT)} {t : List UInt8} {c : UInt8} {p : Nat} (h : c = 45 ∨ dgJ c = true) : casP lst obj t c p = numV (numP t p) := by
 have h1 : c ≠ 91 ∧ c ≠ 123 ∧ c ≠ 34 := by
  rcases h with rfl | h
  · decide
  refine ⟨?_, ?_, ?_⟩ <;> (rintro rfl; exact absurd h (by decide))
 unfold casP
 rw [if_neg h1.1, if_neg h1.2.1, if_neg h1.2.2, if_pos h]
theorem itoa_head (n : Int) : ∃ c r, Lib.itoa n = c :: r ∧ (c = 45 ∨ dgJ c = true) ∧ isBl c = false := by
 unfold Lib.itoa
 split
 · exact ⟨45, _, rfl, .inl rfl, rfl⟩
 have hp := dec_ne n.toNat
 obtain ⟨c, r, e⟩ := List.exists_cons_of_length_pos hp
 have hc := dec_dg n.toNat c (by rw [e]; simp)
 refine ⟨c, r, e, .inr hc, ?_⟩
 rw [dgJ_iff] at hc
 simp only [isBl, Bool.or_eq_false_iff, beq_eq_false_iff_ne]
 refine ⟨⟨⟨?_, ?_⟩, ?_⟩, ?_⟩ <;> (rintro rfl; exact absurd hc (by decide))
theorem prV_head {v : JV} {d : Nat} (h : mayV v d = true) : ∃ c r, prV v = c :: r ∧ isBl c = false ∧ c ≠ 93 ∧ c ≠ 125 := by
 obtain ⟨k, n, s, l, m⟩ := v
 simp only [mayV, Bool.and_eq_true, decide_eq_true_eq] at h
 have hk : k = 1 ∨ k = 2 ∨ k = 3 ∨ k = 4 ∨ k = 5 ∨ k = 6 ∨ k = 7 := by omega
 rcases hk with rfl | rfl | rfl | rfl | rfl | rfl | rfl
 · exact ⟨_, _, rfl, by decide, by decide, by decide⟩
 · exact ⟨_, _, rfl, by decide, by decide, by decide⟩
 · exact ⟨_, _, rfl, by decide, by decide, by decide⟩
 · obtain ⟨c, r, e, hc, hb⟩ := itoa_head n
   refine ⟨c, r, e, hb, ?_, ?_⟩ <;> (rintro rfl; exact absurd hc (by decide))
 · exact ⟨_, _, rfl, by decide, by decide, by decide⟩
 · exact ⟨_, _, rfl, by decide, by decide, by decide⟩
 exact ⟨_, _, rfl, by decide, by decide, by decide⟩
theorem entP_no {t : List UInt8} {p : Nat} {c d : UInt8} (h : t[p + 1]? = some c) (hc : isBl c = false) (hd : c ≠ d) : entP t d p = .ok false (p + 1) := by
 unfold entP
 rw [skp_no h hc, h]
 simp [hd]
theorem entP_yes {t : List UInt8} {p : Nat} {d : UInt8} (h : t[p + 1]? = some d) (hc : isBl d = false) : entP t d p = .ok true (p + 2) := by
 unfold entP
 rw [skp_no h hc, h]
 simp
theorem at_pre1 {pre t : List UInt8} {a c : UInt8} : (pre ++ a :: c :: t)[pre.length + 1]? = some c := by
 rw [List.getElem?_append_right (by omega), Nat.add_sub_cancel_left]
 rfl
theorem lst_pr {l : List JV} {d : Nat} {f : Nat → JR JV} {pre rest T : List UInt8} (hT : T = pre ++ (91 :: ((prT l).drop 1 ++ [93]) ++ rest)) (h : mayL l d = true)
 (hi : l ≠ [] → ∀ n, l.length ≤ n → itsP f T n (pre.length + 1) [] = .ok l (pre.length + 1 + ((prT l).drop 1).length + 1)) : lstP f T pre.length = .ok l (pre.length + (91 :: ((prT l).drop 1 ++ [93])).length) := by
 unfold lstP
 cases l with
 | nil =>
  rw [entP_yes (by rw [hT]; exact at_pre1) (by decide)]
  rfl
 | cons v t =>
  simp only [mayL, Bool.and_eq_true] at h
  obtain ⟨c, r, e, hb, h1, h2⟩ := prV_head h.1
  have hat : T[pre.length + 1]? = some c := by
   rw [hT, prT, List.drop_succ_cons, List.drop_zero, e]
   exact at_pre1
  rw [entP_no hat hb h1]
  dsimp only
  have hlen : (v :: t).length ≤ T.length + 1 := by
   have : ∀ l : List JV, l.length ≤ (prT l).length := by
    intro l
    induction l with
    | nil => simp
    | cons a b ih => rw [prT]; simp; omega
   have := this (v :: t)
   rw [hT]
   simp only [List.length_append, List.length_cons, List.length_drop] at this ⊢
   omega
  rw [hi (by simp) _ hlen]
  simp
  omega
theorem obj_pr {l : List MemT} {d : Nat} {f : Nat → JR JV} {pre rest T : List UInt8} (hT : T = pre ++ (123 :: ((prU l).drop 1 ++ [125]) ++ rest)) (h : mayM l none d = true)
 (hi : l ≠ [] → ∀ n, l.length ≤ n → mesP f T n (pre.length + 1) [] = .ok l (pre.length + 1 + ((prU l).drop 1).length + 1)) : objP f T pre.length = .ok l (pre.length + (123 :: ((prU l).drop 1 ++ [125])).length) := by
 unfold objP
 have hsr := mayM_srt h
 cases l with
 | nil =>
  rw [entP_yes (by rw [hT]; exact at_pre1) (by decide)]
  rfl
 | cons v t =>
  obtain ⟨nm, v⟩ := v
  have hat : T[pre.length + 1]? = some 34 := by
   rw [hT, prU, List.drop_succ_cons, List.drop_zero]
   exact at_pre1
  rw [entP_no hat (by decide) (by decide)]
  dsimp only
  have hlen : ((nm, v) :: t).length ≤ T.length + 1 := by
   have : ∀ l : List MemT, l.length ≤ (prU l).length := by
    intro l
    induction l with
    | nil => simp
    | cons a b ih => obtain ⟨a1, a2⟩ := a; rw [prU]; simp; omega
   have := this ((nm, v) :: t)
   rw [hT]
   simp only [List.length_append, List.length_cons, List.length_drop] at this ⊢
   omega
  rw [hi (by simp) _ hlen]
  dsimp only
  rw [hsr]
  congr 1
  simp
  omega
theorem prT_ne {t : List JV} (h : t ≠ []) : prT t = 44 :: (prT t).drop 1 := by
 cases t with
 | nil => exact absurd rfl h
 | cons v t => rfl
theorem prU_ne {t : List MemT} (h : t ≠ []) : prU t = 44 :: (prU t).drop 1 := by
 cases t with
 | nil => exact absurd rfl h
 | cons v t => rfl
theorem memP_pr {f : Nat → JR JV} {ns : List (List UInt8)} {nm pre rest T : List UInt8} {v : JV} {q : Nat} (hT : T = pre ++ (quo nm ++ 58 :: rest)) (hx : txF nm = true) (hn : nm ∉ ns) (hf : f (pre.length + (quo nm).length + 1) = .ok v q) :
 memP f T ns pre.length = .ok (nm, v) q := by
 have hat : T[pre.length]? = some 34 := by rw [hT]; exact at_pre pre 34 _
 have hs := skp_no hat (by decide)
 have hat2 : T[pre.length + (quo nm).length]? = some 58 := by
  have := at_pre (pre ++ quo nm) 58 rest
  rw [List.length_append, List.append_assoc] at this
  rw [hT]; exact this
 have hs2 := skp_no hat2 (by decide)
 have hlt := (List.getElem?_eq_some_iff.1 hat).1
 have ht := txtP_pr pre nm (58 :: rest) hx
 rw [← hT] at ht
 unfold memP
 rw [hs, if_neg (by omega), ht]
 dsimp only
 rw [if_neg hn, hs2, hat2]
 dsimp only
 rw [if_neg (by simp), hf]
mutual
theorem rd_pr : ∀ (v : JV) (d : Nat) (pre rest T : List UInt8), T = pre ++ (prV v ++ rest) → mayV v d = true → (v.kind = 4 → stopB rest = true) → valP T d pre.length = .ok v (pre.length + (prV v).length)
 | .mk k n s l m, d, pre, rest, T, hT, h, hs => by
   simp only [mayV, fitV, Bool.and_eq_true, Bool.or_eq_true, decide_eq_true_eq] at h
   obtain ⟨⟨⟨⟨⟨hd, hk1⟩, hk7⟩, ⟨⟨⟨⟨⟨⟨hn, hn1⟩, hn2⟩, hS⟩, ht⟩, hl⟩, hm⟩⟩, hL⟩, hM⟩ := h
   obtain ⟨e, rfl⟩ : ∃ e, d = e + 1 := ⟨d - 1, by omega⟩
   simp only [Nat.add_sub_cancel] at hL hM
   have hk : k = 1 ∨ k = 2 ∨ k = 3 ∨ k = 4 ∨ k = 5 ∨ k = 6 ∨ k = 7 := by omega
   rcases hk with rfl | rfl | rfl | rfl | rfl | rfl | rfl
   · obtain rfl : n = 0 := by simpa using hn
     obtain rfl : s = [] := by simpa using hS
     obtain rfl : l = [] := by simpa using hl
     obtain rfl : m = [] := by simpa using hm
     have e1 : prV (.mk 1 0 [] [] []) = [110, 117, 108, 108] := rfl
     rw [e1] at hT ⊢
     rw [valP_at (by rw [hT]; exact at_pre pre 110 _) (by decide)]
     have := wrdP_pr [110, 117, 108, 108] pre rest
     rw [← hT] at this
     simp only [casP]
     rw [if_neg (by decide), if_neg (by decide), if_neg (by decide), if_neg (by decide), if_neg (by decide), if_neg (by decide), if_pos trivial, if_pos this]
     rfl
   · obtain rfl : n = 0 := by simpa using hn
     obtain rfl : s = [] := by simpa using hS
     obtain rfl : l = [] := by simpa using hl
     obtain rfl : m = [] := by simpa using hm
     have e1 : prV (.mk 2 0 [] [] []) = [102, 97, 108, 115, 101] := rfl
     rw [e1] at hT ⊢
     rw [valP_at (by rw [hT]; exact at_pre pre 102 _) (by decide)]
     have := wrdP_pr [102, 97, 108, 115, 101] pre rest
     rw [← hT] at this
     simp only [casP]
     rw [if_neg (by decide), if_neg (by decide), if_neg (by decide), if_neg (by decide), if_neg (by decide), if_pos trivial, if_pos this]
     rfl
   · obtain rfl : n = 0 := by simpa using hn
     obtain rfl : s = [] := by simpa using hS
     obtain rfl : l = [] := by simpa using hl
     obtain rfl : m = [] := by simpa using hm
     have e1 : prV (.mk 3 0 [] [] []) = [116, 114, 117, 101] := rfl
     rw [e1] at hT ⊢
     rw [valP_at (by rw [hT]; exact at_pre pre 116 _) (by decide)]
     have := wrdP_pr [116, 114, 117, 101] pre rest
     rw [← hT] at this
     simp only [casP]
     rw [if_neg (by decide), if_neg (by decide), if_neg (by decide), if_neg (by decide), if_pos trivial, if_pos this]
     rfl
   · obtain rfl : s = [] := by simpa using hS
     obtain rfl : l = [] := by simpa using hl
     obtain rfl : m = [] := by simpa using hm
     have e1 : prV (.mk 4 n [] [] []) = Lib.itoa n := rfl
     rw [e1] at hT ⊢
     obtain ⟨c, r, e2, hc, hb⟩ := itoa_head n
     have hat : T[pre.length]? = some c := by rw [hT, e2]; exact at_pre pre c _
     have := numP_pr pre rest n (hs rfl)
     rw [← hT, if_neg (by omega)] at this
     rw [valP_at hat hb, casP_num hc, this]
     rfl
   · obtain rfl : n = 0 := by simpa using hn
     obtain rfl : l = [] := by simpa using hl
     obtain rfl : m = [] := by simpa using hm
     have e1 : prV (.mk 5 0 s [] []) = quo s := rfl
     rw [e1] at hT ⊢
     have hat : T[pre.length]? = some 34 := by rw [hT]; exact at_pre pre 34 _
     have := txtP_pr pre s rest ht
     rw [← hT] at this
     rw [valP_at hat (by decide)]
     simp only [casP]
     rw [if_neg (by decide), if_neg (by decide), if_pos trivial, this]
     rfl
   · obtain rfl : n = 0 := by simpa using hn
     obtain rfl : s = [] := by simpa using hS
     obtain rfl : m = [] := by simpa using hm
     have e1 : prV (.mk 6 0 [] l []) = 91 :: ((prT l).drop 1 ++ [93]) := rfl
     rw [e1] at hT ⊢
     have hat : T[pre.length]? = some 91 := by rw [hT]; exact at_pre pre 91 _
     rw [valP_at hat (by decide)]
     simp only [casP]
     rw [if_pos trivial, lst_pr hT hL (fun hne n hn => ?_)]
     · rfl
     have := rd_its l e (pre ++ [91]) rest T [] n (by rw [hT]; simp) hL hne hn
     simpa using this
   obtain rfl : n = 0 := by simpa using hn
   obtain rfl : s = [] := by simpa using hS
   obtain rfl : l = [] := by simpa using hl
   have e1 : prV (.mk 7 0 [] [] m) = 123 :: ((prU m).drop 1 ++ [125]) := rfl
   rw [e1] at hT ⊢
   have hat : T[pre.length]? = some 123 := by rw [hT]; exact at_pre pre 123 _
   rw [valP_at hat (by decide)]
   simp only [casP]
   rw [if_neg (by decide), if_pos trivial, obj_pr hT hM (fun hne n hn => ?_)]
   · rfl
   have := rd_mes m none e (pre ++ [123]) rest T [] n (by rw [hT]; simp) hM hne hn (by simpa using mayM_nodup hM)
   simpa using this
theorem rd_its : ∀ (l : List JV) (d : Nat) (pre rest T : List UInt8) (acc : List JV) (n : Nat), T = pre ++ ((prT l).drop 1 ++ (93 :: rest)) → mayL l d = true → l ≠ [] → l.length ≤ n → itsP (valP T d) T n pre.length acc = .ok (acc ++ l) (pre.length + ((prT l).drop 1).length + 1)
 | [], _, _, _, _, _, _, _, _, h, _ => absurd rfl h
 | v :: t, d, pre, rest, T, acc, n, hT, h, _, hn => by
   simp only [mayL, Bool.and_eq_true] at h
   obtain ⟨n, rfl⟩ : ∃ k, n = k + 1 := ⟨n - 1, by simp at hn; omega⟩
   have e0 : (prT (v :: t)).drop 1 = prV v ++ prT t := by rw [prT, List.drop_succ_cons, List.drop_zero]
   rw [e0] at hT ⊢
   have hT1 : T = pre ++ (prV v ++ (prT t ++ 93 :: rest)) := by rw [hT]; simp
   rw [itsP, rd_pr v d pre (prT t ++ 93 :: rest) T hT1 h.1 (fun _ => by cases t <;> rfl)]
   dsimp only
   by_cases ht : t = []
   · subst ht
     have hat : T[pre.length + (prV v).length]? = some 93 := by
      have := at_pre (pre ++ prV v) 93 rest
      rw [List.length_append, List.append_assoc] at this
      rw [hT1]; exact this
     rw [behP_end hat (by decide)]
     simp [prT]
   have e1 := prT_ne ht
   have hat : T[pre.length + (prV v).length]? = some 44 := by
    have := at_pre (pre ++ prV v) 44 ((prT t).drop 1 ++ 93 :: rest)
    rw [List.length_append, List.append_assoc, ← List.cons_append, ← e1] at this
    rw [hT1]; exact this
   rw [behP_more hat (by decide)]
   dsimp only
   have := rd_its t d (pre ++ (prV v ++ [44])) rest T (acc ++ [v]) n (by rw [hT1, e1]; simp) h.2 ht (by simp at hn; omega)
   have el : (pre ++ (prV v ++ [44])).length = pre.length + (prV v).length + 1 := by simp; omega
   rw [el] at this
   rw [this]
   congr 1
   · simp
   rw [e1]; simp; omega
theorem rd_mes : ∀ (l : List MemT) (p : Option (List UInt8)) (d : Nat) (pre rest T : List UInt8) (acc : List MemT) (n : Nat), T = pre ++ ((prU l).drop 1 ++ (125 :: rest)) → mayM l p d = true → l ≠ [] → l.length ≤ n → ((acc ++ l).map (fun m => m.1)).Nodup → mesP (valP T d) T n pre.length acc = .ok (acc ++ l) (pre.length + ((prU l).drop 1).length + 1)
 | [], _, _, _, _, _, _, _, _, _, h, _, _ => absurd rfl h
 | (nm, v) :: t, p, d, pre, rest, T, acc, n, hT, h, _, hn, hnd => by
   simp only [mayM, Bool.and_eq_true] at h
   obtain ⟨⟨⟨_, hx⟩, hv⟩, hm⟩ := h
   obtain ⟨n, rfl⟩ : ∃ k, n = k + 1 := ⟨n - 1, by simp at hn; omega⟩
   have e0 : (prU ((nm, v) :: t)).drop 1 = quo nm ++ 58 :: (prV v ++ prU t) := by rw [prU, List.drop_succ_cons, List.drop_zero]
   rw [e0] at hT ⊢
   have hT1 : T = pre ++ (quo nm ++ 58 :: (prV v ++ (prU t ++ 125 :: rest))) := by rw [hT]; simp
   have hT2 : T = (pre ++ (quo nm ++ [58])) ++ (prV v ++ (prU t ++ 125 :: rest)) := by rw [hT]; simp
   have el0 : (pre ++ (quo nm ++ [58])).length = pre.length + (quo nm).length + 1 := by simp; omega
   have hf := rd_pr v d (pre ++ (quo nm ++ [58])) (prU t ++ 125 :: rest) T hT2 hv (fun _ => by rcases t with _ | ⟨⟨a, b⟩, t⟩ <;> rfl)
   rw [el0] at hf
   have hnew : nm ∉ acc.map (fun m => m.1) := by
    rw [List.map_append, List.nodup_append] at hnd
    intro hin
    exact hnd.2.2 nm hin nm (by simp) rfl
   rw [mesP, memP_pr hT1 hx hnew hf]
   dsimp only
   by_cases ht : t = []
   · subst ht
     have hat : T[pre.length + (quo nm).length + 1 + (prV v).length]? = some 125 := by
      have := at_pre (pre ++ (quo nm ++ [58]) ++ prV v) 125 rest
      rw [List.length_append, el0, List.append_assoc] at this
      rw [hT2]; exact this
     rw [behP_end hat (by decide)]
     simp [prU]; omega
   have e1 := prU_ne ht
   have hat : T[pre.length + (quo nm).length + 1 + (prV v).length]? = some 44 := by
    have := at_pre (pre ++ (quo nm ++ [58]) ++ prV v) 44 ((prU t).drop 1 ++ 125 :: rest)
    rw [List.length_append, el0, List.append_assoc, ← List.cons_append, ← e1] at this
    rw [hT2]; exact this
   rw [behP_more hat (by decide)]
   dsimp only
   have := rd_mes t (some nm) d (pre ++ (quo nm ++ [58]) ++ (prV v ++ [44])) rest T (acc ++ [(nm, v)]) n (by rw [hT2, e1]; simp) hm ht (by simp at hn; omega) (by simpa using hnd)
   have el : (pre ++ (quo nm ++ [58]) ++ (prV v ++ [44])).length = pre.length + (quo nm).length + 1 + (prV v).length + 1 := by simp; omega
   rw [el] at this
   rw [this]
   congr 1
   · simp
   rw [e1]; simp; omega
end
theorem skp_bls : ∀ (A pre rest : List UInt8), (∀ c ∈ A, isBl c = true) → skp (pre ++ (A ++ rest)) pre.length = skp (pre ++ (A ++ rest)) (pre.length + A.length)
 | [], pre, rest, _ => rfl
 | c :: t, pre, rest, h => by
   have h1 := skp_bl (at_pre pre c (t ++ rest)) (h c (by simp))
   have h2 := skp_bls t (pre ++ [c]) rest (fun x hx => h x (by simp [hx]))
   simp only [List.append_assoc, List.singleton_append, List.length_append, List.length_singleton] at h2
   simp only [List.cons_append, List.length_cons]
   rw [h1, h2]
   congr 1
   omega
theorem valP_skp {t : List UInt8} {p q : Nat} (h : skp t p = q) (hq : skp t q = q) : ∀ d, valP t d p = valP t d q
 | 0 => by rw [valP, valP, h, hq]
 | d + 1 => by rw [valP, valP, h, hq]
theorem skp_all (pre A : List UInt8) (h : ∀ c ∈ A, isBl c = true) : skp (pre ++ A) pre.length = (pre ++ A).length := by
 have := skp_bls A pre [] h
 rw [List.append_nil] at this
 rw [this, ← List.length_append, skp_end]
theorem par_any {v : JV} {A B : List UInt8} (hm : mayV v 64 = true) (hA : ∀ c ∈ A, isBl c = true) (hB : ∀ c ∈ B, isBl c = true) (hl : (A ++ (prV v ++ B)).length ≤ 20000) :
 parP (A ++ (prV v ++ B)) = .ok v (A ++ (prV v ++ B)).length := by
 obtain ⟨c, r, e, hb, _, _⟩ := prV_head hm
 have hstop : v.kind = 4 → stopB B = true := by
  intro _
  cases B with
  | nil => rfl
  | cons b t =>
   have := hB b (by simp)
   simp only [isBl, Bool.or_eq_true, beq_iff_eq] at this
   rcases this with ((rfl | rfl) | rfl) | rfl <;> rfl
 have h1 := rd_pr v 64 A B _ rfl hm hstop
 have hat : (A ++ (prV v ++ B))[A.length]? = some c := by rw [e]; exact at_pre A c _
 have hs0 := skp_bls A [] (prV v ++ B) hA
 simp only [List.nil_append, List.length_nil, Nat.zero_add] at hs0
 have hs1 := skp_no hat hb
 rw [hs1] at hs0
 unfold parP
 rw [if_neg (by omega), valP_skp hs0 hs1 64, h1]
 dsimp only
 have hs2 := skp_all (A ++ prV v) B hB
 rw [List.append_assoc, List.length_append] at hs2
 rw [hs2, if_neg (by omega)]
theorem par_pr {v : JV} (hm : mayV v 64 = true) (hl : (prV v).length ≤ 20000) : parP (prV v) = .ok v (prV v).length := by
 have := par_any (A := []) (B := []) hm (by simp) (by simp) (by simpa using hl)
 simpa using this
theorem txN : txF [] = true := by kernel_rfl
theorem itoa_len {n : Int} (h : -9223372036854775808 ≤ n ∧ n ≤ 9223372036854775807) : (Lib.itoa n).length ≤ 21 := by
 unfold Lib.itoa
 have hd : ∀ k u : Nat, u < 10 ^ k → 1 ≤ k → Lib.nDigits u ≤ k := by
  intro k
  induction k with
  | zero => intro u _ h; omega
  | succ k ih =>
   intro u hu _
   by_cases hs : u < 10
   · rw [Lib.nDigits_small hs]; omega
   rw [Lib.nDigits_big hs]
   have hk : 1 ≤ k := by
    rcases k with _ | k
    · simp at hu; omega
    omega
   have := ih (u / 10) (by rw [Nat.pow_succ] at hu; omega) hk
   omega
 split
 · rw [List.length_cons, Lib.decDigits_length]
   have := hd 20 n.natAbs (by omega) (by omega)
   omega
 rw [Lib.decDigits_length]
 have := hd 20 n.toNat (by omega) (by omega)
 omega
end Go.Proofs.YtegblhmcfemfgaaGreatDoor
