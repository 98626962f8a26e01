import Derived.Test.YtegblhmcfemfgaaGreatDoorJParM
namespace Go.Proofs.YtegblhmcfemfgaaGreatDoor
open Go.RowKit
theorem jsignB_iff (n : Nat) : signB n = true ↔ n < 55296 ∨ (57343 < n ∧ n ≤ 1114111) := by
 unfold signB; simp; omega
theorem joN (n : Nat) (h : n < 256) : (UInt8.ofNat n).toNat = n := by rw [UInt8.toNat_ofNat']; omega
theorem jsgn_sb (n : Nat) (h : signB n = true) : sgn (sb n) = (n, (sb n).length) := by
 have hn := (jsignB_iff n).1 h
 unfold sb
 split
 · rw [sgn, joN n (by omega), if_pos (by omega)]; rfl
 split
 · rw [sgn, joN _ (by omega), if_neg (by omega), if_pos (by omega)]
   simp only [tailR]
   rw [joN _ (by omega), if_pos (by omega)]
   rw [show (192 + n / 64) % 32 * 64 + (128 + n % 64) % 64 = n by omega, tailE_ok (by omega) h]
   rfl
 split
 · rw [sgn, joN _ (by omega), if_neg (by omega), if_neg (by omega), if_pos (by omega)]
   simp only [tailR]
   rw [joN _ (by omega), joN _ (by omega), if_pos (by omega), if_pos (by omega)]
   rw [show ((224 + n / 4096) % 16 * 64 + (128 + n / 64 % 64) % 64) * 64 + (128 + n % 64) % 64 = n by omega, tailE_ok (by omega) h]
   rfl
 rw [sgn, joN _ (by omega), if_neg (by omega), if_neg (by omega), if_neg (by omega), if_pos (by omega)]
 simp only [tailR]
 rw [joN _ (by omega), joN _ (by omega), joN _ (by omega), if_pos (by omega), if_pos (by omega), if_pos (by omega)]
 rw [show (((240 + n / 262144) % 8 * 64 + (128 + n / 4096 % 64) % 64) * 64 + (128 + n / 64 % 64) % 64) * 64 + (128 + n % 64) % 64 = n by omega, tailE_ok (by omega) h]
 rfl
theorem jsb_pos (n : Nat) : 1 ≤ (sb n).length := by
 unfold sb
 split
 · simp
 split
 · simp
 split
 · simp
 simp
theorem jcnt_sb (n : Nat) (h : signB n = true) : cnt (sb n) = some 1 := by
 have hp := jsb_pos n
 rw [cnt_step _ (by intro e; rw [e] at hp; simp at hp), jsgn_sb n h, if_neg (by simp only; omega), List.drop_length, cnt_nil]
 rfl
theorem fourR_app : ∀ (k : Nat) (l e : List UInt8) (acc : Nat), (fourR k l acc).2.1 = 0 → fourR k (l ++ e) acc = fourR k l acc
 | 0, l, e, acc, _ => by cases l <;> (cases e <;> rfl)
 | k + 1, [], e, acc, h => by simp [fourR] at h
 | k + 1, c :: l, e, acc, h => by
   simp only [List.cons_append]
   rw [fourR] at h ⊢
   rw [fourR]
   by_cases hd : refD c < 0
   · rw [if_pos hd] at h; cases h
   rw [if_neg hd] at h ⊢
   rw [if_neg hd, fourR_app k l e _ h]
theorem wantN_app {t e : List UInt8} {p : Nat} {c : UInt8} (h : wantN t p c = 0) : wantN (t ++ e) p c = 0 := by
 have hp := wantN_zero h
 unfold wantN at h ⊢
 rw [if_pos hp] at h
 rw [if_pos (by simp; omega), List.getElem?_append_left hp]
 exact h
theorem secR_app {t e : List UInt8} {p : Nat} (h : (secR t p).2.1 = 0) : secR (t ++ e) p = secR t p := by
 unfold secR at h ⊢
 by_cases h1 : wantN t p 92 ≠ 0
 · rw [if_pos h1] at h; exact absurd h h1
 rw [if_neg h1] at h ⊢
 have h1' : wantN t p 92 = 0 := by simpa using h1
 rw [if_neg (by rw [wantN_app h1']; simp)]
 by_cases h2 : wantN t (p + 1) 117 ≠ 0
 · rw [if_pos h2] at h; exact absurd h h2
 rw [if_neg h2] at h ⊢
 have h2' : wantN t (p + 1) 117 = 0 := by simpa using h2
 rw [if_neg (by rw [wantN_app h2']; simp)]
 have h3 : (fourR 4 (t.drop (p + 2)) 0).2.1 = 0 := by
  dsimp only at h
  split at h
  · cases h
  exact h
 rw [List.drop_append, fourR_app 4 _ _ 0 h3]
theorem unitR_app {t e : List UInt8} {p : Nat} (h : (unitR t p).1 = 0) : unitR (t ++ e) p = unitR t p := by
 unfold unitR at h ⊢
 by_cases h1 : (fourR 4 (t.drop p) 0).2.1 ≠ 0
 · rw [if_pos h1] at h; exact absurd h h1
 have h1' : (fourR 4 (t.drop p) 0).2.1 = 0 := by simpa using h1
 rw [List.drop_append, fourR_app 4 _ _ 0 h1']
 rw [if_neg h1] at h ⊢
 split at h
 · next h2 =>
   rw [if_pos h2]
   split at h
   · next h3 => exact absurd h h3
   next h3 =>
   have h3' : (secR t (p + (fourR 4 (t.drop p) 0).2.2)).2.1 = 0 := by simpa using h3
   rw [secR_app h3', if_neg h1, if_pos h2]
 next h2 => rw [if_neg h2, if_neg h1, if_neg h2]
theorem escR_app {t e : List UInt8} {p : Nat} (h : (escR t p).1 = 0) : escR (t ++ e) p = escR t p := by
 unfold escR at h ⊢
 cases hp : t[p]? with
 | none => rw [hp] at h; cases h
 | some c =>
  have hlt := (List.getElem?_eq_some_iff.1 hp).1
  rw [List.getElem?_append_left hlt, hp]
  rw [hp] at h
  dsimp only at h ⊢
  by_cases hc : c = 117
  · rw [if_pos hc] at h ⊢
    rw [unitR_app h]
    rw [if_pos hc]
  rw [if_neg hc] at h ⊢
  rw [if_neg hc]
theorem sgn_len : ∀ l : List UInt8, (sgn l).2 ≤ l.length := sgn_le
theorem stepR_app {t e : List UInt8} {p : Nat} (h : (stepR t p).2.1 = 0) : stepR (t ++ e) p = stepR t p := by
 unfold stepR at h ⊢
 cases hp : t[p]? with
 | none => rw [hp] at h; cases h
 | some c =>
  have hlt := (List.getElem?_eq_some_iff.1 hp).1
  rw [List.getElem?_append_left hlt, hp]
  rw [hp] at h
  dsimp only at h ⊢
  by_cases h34 : c = 34
  · rw [if_pos h34, if_pos h34]
  rw [if_neg h34] at h
  rw [if_neg h34, if_neg h34]
  by_cases h92 : c = 92
  · rw [if_pos h92] at h
    rw [if_pos h92, if_pos h92, escR_app h]
  rw [if_neg h92] at h
  rw [if_neg h92, if_neg h92]
  by_cases hs : (sgn (t.drop p)).2 = 0 ∨ (sgn (t.drop p)).1 < 32
  · rw [if_pos hs] at h; cases h
  have hz : (sgn (t.drop p)).2 ≠ 0 := fun h => hs (.inl h)
  have hl := sgn_len (t.drop p)
  rw [List.drop_append, sgn_app _ _ hz, if_neg hs, if_neg hs, List.take_append_of_le_length hl]
theorem unqF_app (e : List UInt8) : ∀ (f g : Nat) (t : List UInt8) (p : Nat) (o : List UInt8), f ≤ g → (unqF f t p o).2.2 = 0 → unqF g (t ++ e) p o = unqF f t p o
 | 0, g, t, p, o, _, h => by simp [unqF] at h
 | f + 1, g, t, p, o, hg, h => by
   obtain ⟨g, rfl⟩ : ∃ k, g = k + 1 := ⟨g - 1, by omega⟩
   rw [unqF] at h
   rw [unqF, unqF]
   by_cases h1 : (stepR t p).2.1 ≠ 0
   · rw [if_pos h1] at h; exact absurd h h1
   have h1' : (stepR t p).2.1 = 0 := by simpa using h1
   rw [if_neg h1] at h
   rw [stepR_app h1', if_neg h1, if_neg h1]
   by_cases h2 : (stepR t p).1 = true
   · rw [if_pos h2, if_pos h2]
   rw [if_neg h2] at h
   rw [if_neg h2, if_neg h2]
   exact unqF_app e f g t _ _ (by omega) h
theorem unqR_app {t e : List UInt8} {p : Nat} (h : (unqR t (p : Int)).2.2 = 0) : unqR (t ++ e) (p : Int) = unqR t (p : Int) := by
 unfold unqR at h ⊢
 by_cases h0 : (p : Int) < 0 ∨ (t.length : Int) < (p : Int)
 · rw [if_pos h0] at h; cases h
 rw [if_neg h0] at h ⊢
 rw [if_neg (by simp; omega)]
 by_cases h1 : wantN t (p : Int).toNat 34 ≠ 0
 · rw [if_pos h1] at h; exact absurd h h1
 have h1' : wantN t (p : Int).toNat 34 = 0 := by simpa using h1
 rw [if_neg h1] at h ⊢
 rw [if_neg (by rw [wantN_app h1']; simp)]
 exact unqF_app e _ _ t _ _ (by simp) h
theorem validB_app {a b : List UInt8} (ha : validB a = true) (hb : validB b = true) : validB (a ++ b) = true := by
 obtain ⟨n, hn⟩ := validB_some ha
 obtain ⟨m, hm⟩ := validB_some hb
 unfold validB
 rw [cnt_app a b n hn, hm]
 rfl
theorem validB_sb {n : Nat} (h : signB n = true) : validB (sb n) = true := by
 unfold validB
 rw [jcnt_sb n h]
 rfl
theorem validB_take {l : List UInt8} (h : (sgn l).2 ≠ 0) : validB (l.take (sgn l).2) = true := by
 have h1 := sgn_take l h
 have hl := sgn_len l
 obtain ⟨z, hz⟩ : ∃ z, z = (sgn l).2 := ⟨_, rfl⟩
 rw [← hz] at h1 hl h ⊢
 have hlen : (l.take z).length = z := by simp; omega
 obtain ⟨m, hm⟩ : ∃ m, m = l.take z := ⟨_, rfl⟩
 rw [← hm] at h1 hlen ⊢
 have h2 : (sgn m).2 = m.length := by rw [h1, ← hz, hlen]
 cases m with
 | nil => simp at hlen; omega
 | cons c t =>
  unfold validB cnt
  rw [List.length_cons, cntF, if_neg (by rw [h2]; simp), h2, List.drop_length]
  cases t <;> rfl
theorem meB_valid (c : UInt8) (h : (meB c).2 = true) : validB [(meB c).1] = true := by
 have h1 : ∀ k : Fin 256, (meB (UInt8.ofNat k.val)).2 = true → validB [(meB (UInt8.ofNat k.val)).1] = true := by decide +kernel
 have := h1 ⟨c.toNat, c.toNat_lt⟩
 simp only [ofNat_self] at this
 exact this h
theorem unitF_valid {c m : Nat} (h : (unitF c m).1 = 0) : validB (unitF c m).2.2 = true := by
 unfold unitF at h ⊢
 split at h
 · next hs => rw [if_pos hs]; exact validB_sb hs
 cases h
theorem unitR_valid {t : List UInt8} {p : Nat} (h : (unitR t p).1 = 0) : validB (unitR t p).2.2 = true := by
 unfold unitR at h ⊢
 split at h
 · next h1 => exact absurd h h1
 next h1 =>
 rw [if_neg h1]
 split at h
 · next h2 =>
   rw [if_pos h2]
   split at h
   · next h3 => exact absurd h h3
   next h3 => rw [if_neg h3]; exact unitF_valid h
 next h2 => rw [if_neg h2]; exact unitF_valid h
theorem stepR_valid {t : List UInt8} {p : Nat} (h : (stepR t p).2.1 = 0) : validB (stepR t p).2.2.2 = true := by
 unfold stepR at h ⊢
 cases hp : t[p]? with
 | none => rw [hp] at h; cases h
 | some c =>
  rw [hp] at h
  dsimp only at h ⊢
  split at h
  · next h34 => rw [if_pos h34]; rfl
  next h34 =>
  rw [if_neg h34]
  split at h
  · next h92 =>
    rw [if_pos h92]
    dsimp only at h ⊢
    unfold escR at h ⊢
    cases hq : t[p + 1]? with
    | none => rw [hq] at h; cases h
    | some d =>
     rw [hq] at h
     dsimp only at h ⊢
     split at h
     · next hd => rw [if_pos hd]; exact unitR_valid h
     next hd =>
     rw [if_neg hd]
     split at h
     · next hm => rw [if_pos hm]; exact meB_valid d hm
     cases h
  next h92 =>
  rw [if_neg h92]
  split at h
  · cases h
  next hs =>
  rw [if_neg hs]
  exact validB_take (fun e => hs (.inl e))
theorem unqF_valid : ∀ (f : Nat) (t : List UInt8) (p : Nat) (o : List UInt8), validB o = true → (unqF f t p o).2.2 = 0 → validB (unqF f t p o).1 = true
 | 0, t, p, o, _, h => by simp [unqF] at h
 | f + 1, t, p, o, ho, h => by
   rw [unqF] at h ⊢
   split at h
   · next h1 => exact absurd h h1
   next h1 =>
   have h1' : (stepR t p).2.1 = 0 := by simpa using h1
   have hv := validB_app ho (stepR_valid h1')
   rw [if_neg h1]
   split at h
   · next h2 => rw [if_pos h2]; exact hv
   next h2 => rw [if_neg h2]; exact unqF_valid f t _ _ hv h
theorem unqR_valid {t : List UInt8} {a : Int} (h : (unqR t a).2.2 = 0) : validB (unqR t a).1 = true := by
 unfold unqR at h ⊢
 split at h
 · cases h
 next h0 =>
 rw [if_neg h0]
 split at h
 · next h1 => exact absurd h h1
 next h1 => rw [if_neg h1]; exact unqF_valid _ _ _ _ rfl h
def ExtV (f g : Nat → JR JV) (n : Nat) : Prop := ∀ p v q, f p = .ok v q → q ≤ n ∧ (q < n ∨ v.kind ≠ 4 → g p = .ok v q)
theorem skp_app {t e : List UInt8} {p : Nat} {c : UInt8} (h : t[skp t p]? = some c) : skp (t ++ e) p = skp t p ∧ (t ++ e)[skp t p]? = some c := by
 have hlt := (List.getElem?_eq_some_iff.1 h).1
 refine ⟨?_, by rw [List.getElem?_append_left hlt]; exact h⟩
 have hp : p ≤ t.length := by have := skp_ge t p; omega
 unfold skp at h hlt ⊢
 have key : ∀ l : List UInt8, blk l < l.length → blk (l ++ e) = blk l := by
  intro l
  induction l with
  | nil => intro h; simp [blk] at h
  | cons c t ih =>
   intro h
   simp only [List.cons_append, blk] at h ⊢
   split
   · next hc =>
     rw [if_pos hc] at h
     rw [ih (by simp at h; omega)]
   rfl
 rw [List.drop_append_of_le_length hp, key _ (by rw [List.length_drop]; omega)]
theorem txtP_app {t e s : List UInt8} {p q : Nat} (h : txtP t p = .ok s q) : txtP (t ++ e) p = .ok s q := by
 unfold txtP at h ⊢
 by_cases h0 : (unqR t (p : Int)).2.2 ≠ 0
 · rw [if_pos h0] at h; cases h
 have h0' : (unqR t (p : Int)).2.2 = 0 := by simpa using h0
 rw [unqR_app h0']
 exact h
theorem txtP_le {t s : List UInt8} {p q : Nat} (h : txtP t p = .ok s q) : q ≤ t.length ∧ txF s = true := by
 unfold txtP at h
 split at h
 · cases h
 next h0 =>
 have h0' : (unqR t (p : Int)).2.2 = 0 := by simpa using h0
 split at h
 · cases h
 next h1 =>
 cases h
 refine ⟨(unqR_len t _).2, ?_⟩
 unfold txF
 rw [unqR_valid h0', Bool.and_true]
 exact decide_eq_true (by omega)
theorem entP_app {t e : List UInt8} {c : UInt8} {p q : Nat} {b : Bool} (h : entP t c p = .ok b q) : entP (t ++ e) c p = .ok b q ∧ q ≤ t.length := by
 unfold entP at h ⊢
 cases hx : t[skp t (p + 1)]? with
 | none => rw [hx] at h; cases h
 | some d =>
  obtain ⟨h1, h2⟩ := skp_app (e := e) hx
  have hlt := (List.getElem?_eq_some_iff.1 hx).1
  rw [h1, h2]
  rw [hx] at h
  refine ⟨h, ?_⟩
  dsimp only at h
  split at h <;> (cases h; omega)
theorem behP_app {t e : List UInt8} {c : UInt8} {p q : Nat} {b : Bool} (h : behP t c p = .ok b q) : behP (t ++ e) c p = .ok b q ∧ q ≤ t.length := by
 unfold behP at h ⊢
 cases hx : t[skp t p]? with
 | none => rw [hx] at h; cases h
 | some d =>
  obtain ⟨h1, h2⟩ := skp_app (e := e) hx
  have hlt := (List.getElem?_eq_some_iff.1 hx).1
  rw [h1, h2]
  rw [hx] at h
  refine ⟨h, ?_⟩
  dsimp only at h
  split at h
  · cases h; omega
  split at h
  · cases h; omega
  cases h
theorem itsP_app {t e : List UInt8} {f g : Nat → JR JV} (hf : ExtV f g t.length) (hge : ∀ q v q1, f q = .ok v q1 → q ≤ q1) : ∀ (n m p : Nat) (acc l : List JV) (q : Nat), n ≤ m → itsP f t n p acc = .ok l q → itsP g (t ++ e) m p acc = .ok l q ∧ q ≤ t.length
 | 0, m, p, acc, l, q, _, h => by simp [itsP] at h
 | n + 1, m, p, acc, l, q, hm, h => by
   obtain ⟨m, rfl⟩ : ∃ k, m = k + 1 := ⟨m - 1, by omega⟩
   rw [itsP] at h ⊢
   split at h
   · cases h
   next v q1 h1 =>
   obtain ⟨hq1, hg⟩ := hf _ _ _ h1
   split at h
   · cases h
   · next r h2 =>
     obtain ⟨b1, b2⟩ := behP_app (e := e) h2
     have := behP_lt h2
     rw [hg (.inl (by omega))]
     dsimp only
     rw [b1]
     cases h
     exact ⟨rfl, b2⟩
   next r h2 =>
   obtain ⟨b1, b2⟩ := behP_app (e := e) h2
   have := behP_lt h2
   rw [hg (.inl (by omega))]
   dsimp only
   rw [b1]
   dsimp only
   exact itsP_app hf hge n m r _ l q (by omega) h
theorem memP_app {t e : List UInt8} {f g : Nat → JR JV} (hf : ExtV f g t.length) {ns : List (List UInt8)} {p q : Nat} {m : MemT} (h : memP f t ns p = .ok m q) : q ≤ t.length ∧ (q < t.length → memP g (t ++ e) ns p = .ok m q) ∧ txF m.1 = true ∧ m.1 ∉ ns := by
 unfold memP at h ⊢
 split at h
 · cases h
 next h0 =>
 split at h
 · cases h
 next name q0 hx =>
 split at h
 · cases h
 next hn =>
 cases hd : t[skp t q0]? with
 | none => rw [hd] at h; cases h
 | some d =>
  rw [hd] at h
  dsimp only at h
  split at h
  · cases h
  next hd58 =>
  split at h
  · cases h
  next v r hv =>
  cases h
  obtain ⟨hq, hg⟩ := hf _ _ _ hv
  have ht := txtP_le hx
  refine ⟨hq, fun hlt => ?_, ht.2, hn⟩
  have hs : skp t p < t.length := by
   have h1 := txtP_ge hx
   omega
  obtain ⟨s1, s2⟩ := skp_app (e := e) (List.getElem?_eq_getElem hs)
  obtain ⟨s3, s4⟩ := skp_app (e := e) hd
  rw [s1, if_neg (by simp; omega), txtP_app hx]
  dsimp only
  rw [if_neg hn, s3, s4]
  dsimp only
  rw [if_neg hd58, hg (.inl hlt)]
theorem mesP_app {t e : List UInt8} {f g : Nat → JR JV} (hf : ExtV f g t.length) : ∀ (n m p : Nat) (acc l : List MemT) (q : Nat), n ≤ m → mesP f t n p acc = .ok l q → mesP g (t ++ e) m p acc = .ok l q ∧ q ≤ t.length
 | 0, m, p, acc, l, q, _, h => by simp [mesP] at h
 | n + 1, m, p, acc, l, q, hm, h => by
   obtain ⟨m, rfl⟩ : ∃ k, m = k + 1 := ⟨m - 1, by omega⟩
   rw [mesP] at h ⊢
   split at h
   · cases h
   next v q1 h1 =>
   obtain ⟨hq1, hg, _⟩ := memP_app (e := e) hf h1
   split at h
   · cases h
   · next r h2 =>
     obtain ⟨b1, b2⟩ := behP_app (e := e) h2
     have := behP_lt h2
     rw [hg (by omega)]
     dsimp only
     rw [b1]
     cases h
     exact ⟨rfl, b2⟩
   next r h2 =>
   obtain ⟨b1, b2⟩ := behP_app (e := e) h2
   have := behP_lt h2
   rw [hg (by omega)]
   dsimp only
   rw [b1]
   dsimp only
   exact mesP_app hf n m r _ l q (by omega) h
theorem wrdP_app {e : List UInt8} : ∀ (w t : List UInt8) (p : Nat), wrdP t w p = 0 → wrdP (t ++ e) w p = 0 ∧ (p ≤ t.length → p + w.length ≤ t.length)
 | [], t, p, _ => ⟨rfl, fun h => by simpa using h⟩
 | c :: w, t, p, h => by
   rw [wrdP] at h ⊢
   cases hx : t[p]? with
   | none => rw [hx] at h; cases h
   | some d =>
    have hlt := (List.getElem?_eq_some_iff.1 hx).1
    rw [hx] at h
    rw [List.getElem?_append_left hlt, hx]
    dsimp only at h ⊢
    split at h
    · next hd =>
      rw [if_pos hd]
      obtain ⟨h1, h2⟩ := wrdP_app (e := e) w t (p + 1) h
      exact ⟨h1, fun _ => by have := h2 (by omega); simp; omega⟩
    cases h
theorem dgs_app {l e : List UInt8} (h : (dgs l).length < l.length) : dgs (l ++ e) = dgs l := by
 induction l with
 | nil => simp at h
 | cons c t ih =>
  simp only [List.cons_append, dgs] at h ⊢
  split
  · next hc =>
    rw [if_pos hc] at h
    rw [ih (by simpa using h)]
  rfl
theorem digP_app {t e : List UInt8} {sg : Int} {p : Nat} {v : Int} {q : Nat} (h : digP t sg p = .ok v q) : q ≤ t.length ∧ (q < t.length → digP (t ++ e) sg p = .ok v q) := by
 unfold digP at h
 split at h
 · cases h
 next h0 =>
 split at h
 · cases h
 next h1 =>
 split at h
 · cases h
 next h2 =>
 split at h
 · cases h
 next h3 =>
 cases h
 have hd := dgs_le (t.drop p)
 have hpos : (dgs (t.drop p)).length ≠ 0 := fun e => h1 (.inl e)
 rw [List.length_drop] at hd
 have hp : p < t.length := by omega
 refine ⟨by omega, fun hlt => ?_⟩
 have e1 : dgs ((t ++ e).drop p) = dgs (t.drop p) := by
  rw [List.drop_append_of_le_length (by omega)]
  exact dgs_app (by rw [List.length_drop]; omega)
 unfold digP
 rw [e1, if_neg (by simp; omega), List.getElem?_append_left hp, if_neg h1, List.getElem?_append_left hlt, if_neg h2, if_neg h3]
theorem numP_app {t e : List UInt8} {p : Nat} {v : Int} {q : Nat} (h : numP t p = .ok v q) : q ≤ t.length ∧ (q < t.length → numP (t ++ e) p = .ok v q) := by
 unfold numP at h ⊢
 split at h
 · next h0 =>
   have hlt := (List.getElem?_eq_some_iff.1 h0).1
   rw [List.getElem?_append_left hlt, if_pos h0]
   exact digP_app h
 next h0 =>
 have hge := digP_ge h
 obtain ⟨h1, h2⟩ := digP_app (e := e) h
 refine ⟨h1, fun hlt => ?_⟩
 rw [List.getElem?_append_left (by omega), if_neg h0]
 exact h2 hlt
theorem lstP_app {t e : List UInt8} {f g : Nat → JR JV} (hf : ExtV f g t.length) (hge : ∀ q v q1, f q = .ok v q1 → q ≤ q1) {p q : Nat} {l : List JV} (h : lstP f t p = .ok l q) : lstP g (t ++ e) p = .ok l q ∧ q ≤ t.length := by
 unfold lstP at h ⊢
 split at h
 · cases h
 · next h1 =>
   obtain ⟨b1, b2⟩ := entP_app (e := e) h1
   rw [b1]
   cases h
   exact ⟨rfl, b2⟩
 next h1 =>
 obtain ⟨b1, b2⟩ := entP_app (e := e) h1
 rw [b1]
 exact itsP_app hf hge _ _ _ _ _ _ (by simp) h
theorem objP_app {t e : List UInt8} {f g : Nat → JR JV} (hf : ExtV f g t.length) {p q : Nat} {l : List MemT} (h : objP f t p = .ok l q) : objP g (t ++ e) p = .ok l q ∧ q ≤ t.length := by
 unfold objP at h ⊢
 split at h
 · cases h
 · next h1 =>
   obtain ⟨b1, b2⟩ := entP_app (e := e) h1
   rw [b1]
   cases h
   exact ⟨rfl, b2⟩
 next h1 =>
 obtain ⟨b1, b2⟩ := entP_app (e := e) h1
 rw [b1]
 dsimp only
 split at h
 · cases h
 next l0 r0 h2 =>
 obtain ⟨c1, c2⟩ := mesP_app (e := e) hf _ ((t ++ e).length + 1) _ _ _ _ (by simp) h2
 rw [c1]
 cases h
 exact ⟨rfl, c2⟩
theorem valP_app (t e : List UInt8) : ∀ d, ExtV (valP t d) (valP (t ++ e) d) t.length
 | 0, p, v, q, h => by
   rw [valP] at h
   split at h
   · cases h
   split at h <;> cases h
 | d + 1, p, v, q, h => by
   have ih := valP_app t e d
   rw [valP] at h
   cases hx : t[skp t p]? with
   | none => rw [hx] at h; cases h
   | some c =>
    rw [hx] at h
    dsimp only at h
    obtain ⟨s1, s2⟩ := skp_app (e := e) hx
    have hlt := (List.getElem?_eq_some_iff.1 hx).1
    rw [valP, s1, s2]
    dsimp only
    unfold casP at h ⊢
    split at h
    · next h91 =>
      rw [if_pos h91]
      cases hl : lstP (valP t d) t (skp t p) with
      | err z => rw [hl] at h; cases h
      | ok l r =>
       obtain ⟨b1, b2⟩ := lstP_app (e := e) ih (fun q v q1 e => valP_ge t d q v q1 e) hl
       rw [b1]
       rw [hl] at h
       cases h
       exact ⟨b2, fun _ => rfl⟩
    next h91 =>
    rw [if_neg h91]
    split at h
    · next h123 =>
      rw [if_pos h123]
      cases hl : objP (valP t d) t (skp t p) with
      | err z => rw [hl] at h; cases h
      | ok l r =>
       obtain ⟨b1, b2⟩ := objP_app (e := e) ih hl
       rw [b1]
       rw [hl] at h
       cases h
       exact ⟨b2, fun _ => rfl⟩
    next h123 =>
    rw [if_neg h123]
    split at h
    · next h34 =>
      rw [if_pos h34]
      cases hl : txtP t (skp t p) with
      | err z => rw [hl] at h; cases h
      | ok l r =>
       rw [txtP_app hl]
       rw [hl] at h
       cases h
       exact ⟨(txtP_le hl).1, fun _ => rfl⟩
    next h34 =>
    rw [if_neg h34]
    split at h
    · next hn =>
      rw [if_pos hn]
      cases hl : numP t (skp t p) with
      | err z => rw [hl] at h; cases h
      | ok l r =>
       obtain ⟨b1, b2⟩ := numP_app (e := e) hl
       rw [hl] at h
       cases h
       refine ⟨b1, fun hh => ?_⟩
       rcases hh with hh | hh
       · rw [b2 hh]; rfl
       exact absurd rfl hh
    next hn =>
    rw [if_neg hn]
    split at h
    · next hc =>
      rw [if_pos hc]
      split at h
      · next hw =>
        obtain ⟨w1, w2⟩ := wrdP_app (e := e) _ _ _ hw
        rw [if_pos w1]
        cases h
        exact ⟨w2 (by omega), fun _ => rfl⟩
      cases h
    next hc =>
    rw [if_neg hc]
    split at h
    · next hc =>
      rw [if_pos hc]
      split at h
      · next hw =>
        obtain ⟨w1, w2⟩ := wrdP_app (e := e) _ _ _ hw
        rw [if_pos w1]
        cases h
        exact ⟨w2 (by omega), fun _ => rfl⟩
      cases h
    next hc =>
    rw [if_neg hc]
    split at h
    · next hc =>
      rw [if_pos hc]
      split at h
      · next hw =>
        obtain ⟨w1, w2⟩ := wrdP_app (e := e) _ _ _ hw
        rw [if_pos w1]
        cases h
        exact ⟨w2 (by omega), fun _ => rfl⟩
      cases h
    cases h
theorem mayM_of {m : List MemT} {d : Nat} (h1 : m.Pairwise (fun a b => Op.bytesLess a.1 b.1 = true)) (h2 : ∀ x ∈ m, txF x.1 = true ∧ mayV x.2 d = true) : ∀ p, (∀ q, p = some q → ∀ x ∈ m, Op.bytesLess q x.1 = true) → mayM m p d = true := by
 induction m with
 | nil => intro p _; rfl
 | cons a t ih =>
  intro p hp
  obtain ⟨nm, v⟩ := a
  rw [List.pairwise_cons] at h1
  rw [mayM, ih h1.2 (fun x hx => h2 x (by simp [hx])) (some nm) (fun q hq x hx => by cases hq; exact h1.1 x hx)]
  have h3 := h2 (nm, v) (by simp)
  rw [h3.1, h3.2]
  have h4 : aftB p nm = true := by
   cases p with
   | none => rfl
   | some q => exact hp q rfl (nm, v) (by simp)
  rw [h4]
  rfl
theorem mayL_of {l : List JV} {d : Nat} (h : ∀ x ∈ l, mayV x d = true) : mayL l d = true := by
 induction l with
 | nil => rfl
 | cons a t ih => rw [mayL, h a (by simp), ih (fun x hx => h x (by simp [hx]))]; rfl
theorem srtM_may {m : List MemT} {d : Nat} (h1 : (m.map (fun m => m.1)).Nodup) (h2 : ∀ x ∈ m, txF x.1 = true ∧ mayV x.2 d = true) : mayM (srtM m) none d = true := by
 have hp : (srtM m).Perm m := List.mergeSort_perm _ _
 have hs : (srtM m).Pairwise (fun a b => Op.bytesLess b.1 a.1 = false) := by
  have := List.pairwise_mergeSort (le := fun a b : MemT => !Op.bytesLess b.1 a.1) (fun a b c h1 h2 => by
   simp only [Bool.not_eq_true'] at h1 h2 ⊢
   cases h : Op.bytesLess c.1 a.1 with
   | false => rfl
   | true =>
    cases h3 : Op.bytesLess a.1 b.1 with
    | true => have := bl_tr _ _ _ h h3; rw [this] at h2; cases h2
    | false => have e := bl_tot _ _ h3 h1; rw [← e, h] at h2; cases h2) (fun a b => by
   cases h : Op.bytesLess b.1 a.1 with
   | false => rfl
   | true =>
    cases h2 : Op.bytesLess a.1 b.1 with
    | false => rfl
    | true => have := bl_tr _ _ _ h h2; rw [bl_irr] at this; cases this) m
  exact this.imp (fun h => by simpa using h)
 have hn : ((srtM m).map (fun m => m.1)).Nodup := (hp.map _).nodup_iff.2 h1
 have hr : (srtM m).Pairwise (fun a b => Op.bytesLess a.1 b.1 = true) := by
  rw [List.Nodup, List.pairwise_map] at hn
  exact (hs.and hn).imp (fun {a b} h => by
   cases h2 : Op.bytesLess a.1 b.1 with
   | true => rfl
   | false => exact absurd (bl_tot _ _ h2 h.1) h.2)
 exact mayM_of hr (fun x hx => h2 x (hp.mem_iff.1 hx)) none (fun q hq => by cases hq)
theorem its_may {f : Nat → JR JV} {t : List UInt8} {d : Nat} (hf : ∀ p v q, f p = .ok v q → mayV v d = true) : ∀ (n p : Nat) (acc l : List JV) (q : Nat), (∀ x ∈ acc, mayV x d = true) → itsP f t n p acc = .ok l q → ∀ x ∈ l, mayV x d = true
 | 0, p, acc, l, q, _, h => by simp [itsP] at h
 | n + 1, p, acc, l, q, ha, h => by
   rw [itsP] at h
   split at h
   · cases h
   next v q1 h1 =>
   have hv := hf _ _ _ h1
   have ha2 : ∀ x ∈ acc ++ [v], mayV x d = true := fun x hx => by
    rcases List.mem_append.1 hx with hx | hx
    · exact ha x hx
    rw [List.mem_singleton] at hx; rw [hx]; exact hv
   split at h
   · cases h
   · cases h; exact ha2
   exact its_may hf n _ _ l q ha2 h
theorem mes_may {f : Nat → JR JV} {t : List UInt8} {d : Nat} (hf : ∀ p v q, f p = .ok v q → mayV v d = true) (hx : ExtV f f t.length) : ∀ (n p : Nat) (acc l : List MemT) (q : Nat), (∀ x ∈ acc, txF x.1 = true ∧ mayV x.2 d = true) → (acc.map (fun m => m.1)).Nodup → mesP f t n p acc = .ok l q → (∀ x ∈ l, txF x.1 = true ∧ mayV x.2 d = true) ∧ (l.map (fun m => m.1)).Nodup
 | 0, p, acc, l, q, _, _, h => by simp [mesP] at h
 | n + 1, p, acc, l, q, ha, hn, h => by
   rw [mesP] at h
   split at h
   · cases h
   next m q1 h1 =>
   obtain ⟨_, p1, v1, hv1, _⟩ := memP_new h1
   obtain ⟨_, _, ht, hnew⟩ := memP_app (e := []) hx h1
   have hv : mayV m.2 d = true := by
    unfold memP at h1
    split at h1
    · cases h1
    split at h1
    · cases h1
    split at h1
    · cases h1
    split at h1
    · cases h1
    split at h1
    · cases h1
    split at h1
    · cases h1
    next hv => cases h1; exact hf _ _ _ hv
   have ha2 : ∀ x ∈ acc ++ [m], txF x.1 = true ∧ mayV x.2 d = true := fun x hx => by
    rcases List.mem_append.1 hx with hx | hx
    · exact ha x hx
    rw [List.mem_singleton] at hx; rw [hx]; exact ⟨ht, hv⟩
   have hn2 : ((acc ++ [m]).map (fun m => m.1)).Nodup := by
    rw [List.map_append, List.nodup_append]
    refine ⟨hn, by simp, fun a ha b hb e => ?_⟩
    simp only [List.map_cons, List.map_nil, List.mem_singleton] at hb
    subst hb e
    exact hnew ha
   split at h
   · cases h
   · cases h; exact ⟨ha2, hn2⟩
   exact mes_may hf hx n _ _ l q ha2 hn2 h
theorem dig_may {t : List UInt8} {sg : Int} {p : Nat} {v : Int} {q : Nat} (hs : sg = 1 ∨ sg = -1) (h : digP t sg p = .ok v q) : -9007199254740991 ≤ v ∧ v ≤ 9007199254740991 := by
 unfold digP at h
 split at h
 · cases h
 split at h
 · cases h
 split at h
 · cases h
 split at h
 · cases h
 next h3 =>
 cases h
 rcases hs with rfl | rfl <;> omega
theorem num_may {t : List UInt8} {p : Nat} {v : Int} {q : Nat} (h : numP t p = .ok v q) : -9007199254740991 ≤ v ∧ v ≤ 9007199254740991 := by
 unfold numP at h
 split at h
 · exact dig_may (.inr rfl) h
 exact dig_may (.inl rfl) h
theorem valP_may (t : List UInt8) : ∀ (d p : Nat) (v : JV) (q : Nat), valP t d p = .ok v q → mayV v d = true
 | 0, p, v, q, h => by
   rw [valP] at h
   split at h
   · cases h
   split at h <;> cases h
 | d + 1, p, v, q, h => by
   have ih := valP_may t d
   have ihx := valP_app t [] d
   rw [List.append_nil] at ihx
   rw [valP] at h
   split at h
   · cases h
   next c hx =>
   unfold casP at h
   split at h
   · cases hl : lstP (valP t d) t (skp t p) with
     | err z => rw [hl] at h; cases h
     | ok l r =>
      rw [hl] at h
      cases h
      have hL : mayL l d = true := by
       refine mayL_of ?_
       unfold lstP at hl
       split at hl
       · cases hl
       · cases hl; simp
       exact its_may ih _ _ _ _ _ (by simp) hl
      simp [mayV, fitV, txN, hL, mayM]
   split at h
   · cases hl : objP (valP t d) t (skp t p) with
     | err z => rw [hl] at h; cases h
     | ok l r =>
      rw [hl] at h
      cases h
      have hM : mayM l none d = true := by
       unfold objP at hl
       split at hl
       · cases hl
       · cases hl; rfl
       split at hl
       · cases hl
       next h2 =>
       cases hl
       obtain ⟨m1, m2⟩ := mes_may ih ihx _ _ _ _ _ (by simp) (by simp) h2
       exact srtM_may m2 m1
      simp [mayV, fitV, txN, hM, mayL]
   split at h
   · cases hl : txtP t (skp t p) with
     | err z => rw [hl] at h; cases h
     | ok l r =>
      rw [hl] at h
      cases h
      simp [mayV, fitV, (txtP_le hl).2, mayL, mayM]
   split at h
   · cases hl : numP t (skp t p) with
     | err z => rw [hl] at h; cases h
     | ok l r =>
      rw [hl] at h
      cases h
      have hn := num_may hl
      simp [mayV, fitV, txN, hn, mayL, mayM]
   split at h
   · split at h
     · cases h; simp [mayV, fitV, txN, mayL, mayM]
     cases h
   split at h
   · split at h
     · cases h; simp [mayV, fitV, txN, mayL, mayM]
     cases h
   split at h
   · split at h
     · cases h; simp [mayV, fitV, txN, mayL, mayM]
     cases h
   cases h
theorem parP_may {t : List UInt8} {v : JV} {q : Nat} (h : parP t = .ok v q) : mayV v 64 = true := by
 unfold parP at h
 split at h
 · cases h
 split at h
 · cases h
 next hv =>
 split at h
 · cases h
 cases h; exact valP_may t 64 0 _ _ hv
end Go.Proofs.YtegblhmcfemfgaaGreatDoor
