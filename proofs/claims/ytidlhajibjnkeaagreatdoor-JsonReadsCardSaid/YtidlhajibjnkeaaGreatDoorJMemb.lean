import Derived.Test.YtidlhajibjnkeaaGreatDoorJVal
import Derived.Maps.Own
import Derived.Maps.OwnOps
import Derived.Maps.Views
/- JSON: member. -/
namespace Go.Proofs.YtidlhajibjnkeaaGreatDoor
open Go.RowKit Go.Maps

theorem lawS : Keyed Tryz.prog 9 := string_keyed Tryz.underlying9
/-- A map of names, each told once. -/
def NamM (W : World) (mb : Nat) (ns : List (List UInt8)) : Prop :=
  ∃ (n : Nat) (D : DataW Unit), W.ownsMap Tryz.prog 9 (plainElem Tryz.prog 3) mb n D ∧ n ≤ ns.length ∧ IsMap D ∧ ∀ k : List UInt8, D.atKey (.string k) (.lit (.int .i64 0)) = .lit (.int .i64 (if k ∈ ns then 1 else 0))
theorem NamM.made (w : World) : NamM (w.alloc (.map #[] 0)) w.heap.size [] := ⟨0, .map [], World.ownsMap_made _ _ _ _, Nat.le_refl _, isMap_empty, fun k => by simp [DataW.atKey]⟩
theorem NamM.frm {W W' : World} {mb : Nat} {ns : List (List UInt8)} {G : Nat → Prop} (h : NamM W mb ns) (hf : Frm G W W') (hn : ¬ G mb) : NamM W' mb ns := by
  obtain ⟨n, D, ⟨es, clock, hb, rest⟩, h2⟩ := h
  exact ⟨n, D, ⟨es, clock, box_frm hb hf hn, rest⟩, h2⟩
theorem NamM.up {W W' : World} {mb : Nat} {ns : List (List UInt8)} (h : NamM W mb ns) (hb : Below W.heap.size W W') : NamM W' mb ns := h.frm (Frm.of_below (F := fun _ => False) hb) (fun h => h)
theorem NamM.lt {W : World} {mb : Nat} {ns : List (List UInt8)} (h : NamM W mb ns) : mb < W.heap.size := by
  obtain ⟨n, D, h1, _⟩ := h
  exact h1.lt
theorem NamM.put {n : Nat} {ns : List (List UInt8)} {D : DataW Unit} {name : List UInt8} {mb : Nat} {W : World} (h : W.ownsMap Tryz.prog 9 (plainElem Tryz.prog 3) mb (n + 1) (D.put (.string name) (.lit (.int .i64 1)))) (hn : n ≤ ns.length) (hm : IsMap D)
    (hat : ∀ k : List UInt8, D.atKey (.string k) (.lit (.int .i64 0)) = .lit (.int .i64 (if k ∈ ns then 1 else 0))) : NamM W mb (ns ++ [name]) := by
  refine ⟨n + 1, _, h, by simp; omega, hm.put _ _, fun k => ?_⟩
  by_cases e : k = name
  · subst e
    rw [atKey_put_same hm (by simp [WideAt.IsKeyLit])]
    simp
  · rw [atKey_put_other (fun h => e (by injection h)), hat]
    simp [e]
theorem infoM : (Tryz.prog.info? 53).map (fun i => (i.zero, i.size, i.bytes)) = some (some (.agg #[str [], .int .i64 0, .int .i64 0, str [], .slice none 0 0, .slice none 0 0]), 6, 96) := by kernel_rfl
/-- What member tells. -/
def MemJ (t : List UInt8) (w : World) (b mb o : Nat) (ns : List (List UInt8)) (r : JR MemT) (e : Ending) (w' : World) : Prop :=
  match r with
  | .err c => ∃ (m : MemT) (cs : List Value), e = .returned (.tuple #[.agg (str m.1 :: cs).toArray, .int .i64 (c : Int)]) ∧ c ≠ 0 ∧ RdJ w' (fun i => w.heap.size ≤ i) m.2 cs ∧ Frm (fun i => i = b ∨ i = mb) w w' ∧ ∃ q o', JRb w' b t q o'
  | .ok m q => ∃ cs, e = .returned (.tuple #[.agg (str m.1 :: cs).toArray, .int .i64 0]) ∧ RdJ w' (fun i => w.heap.size ≤ i) m.2 cs ∧ Frm (fun i => i = b ∨ i = mb) w w' ∧ JRb w' b t q o ∧ q ≤ t.length ∧ NamM w' mb (ns ++ [m.1])
theorem zeroJ (W : World) (F : Nat → Prop) : RdJ W F (.mk 0 0 [] [] []) [.int .i64 0, .int .i64 0, str [], .slice none 0 0, .slice none 0 0] := by
  unfold RdJ
  exact ⟨_, _, rfl, ⟨[], RdFB.nil _ _ _, by unfold RdL; trivial⟩, [], RdFB.nil _ _ _, by unfold RdM; trivial⟩
end Go.Proofs.YtidlhajibjnkeaaGreatDoor

/- JSON: member: the walk. -/
namespace Go.Proofs.YtidlhajibjnkeaaGreatDoor
open Go.RowKit Go.Maps

theorem memErr {t : List UInt8} {w W w9 : World} {b mb o q o' c : Nat} {ns : List (List UInt8)} (hf : Frm (fun i => i = b ∨ i = mb) w W) (hb : b < w.heap.size) (hr : JRb W b t q o') (hf9 : Frm (fun i => i = w.heap.size) W w9) (hc : c ≠ 0) :
    MemJ t w b mb o ns (.err c) (.returned (.tuple #[.agg #[str [], .int .i64 0, .int .i64 0, str [], .slice none 0 0, .slice none 0 0], .int .i64 (c : Int)])) w9 :=
  ⟨([], .mk 0 0 [] [] []), [.int .i64 0, .int .i64 0, str [], .slice none 0 0, .slice none 0 0], rfl, hc, zeroJ _ _, hf.trans hf9 (fun i hi e => by omega), q, o', hr.frm hf9 (by omega)⟩
theorem zeroI (W : World) : (zeroValue 3).run Tryz.prog W = .ok (.int .i64 0) W := by kernel_rfl
theorem frm_bm {w W W' : World} {b mb : Nat} (h : Frm (fun i => i = b ∨ i = mb) w W) (k : Frm (fun i => i = b) W W') : Frm (fun i => i = b ∨ i = mb) w W' := h.trans k (fun _ _ e => .inl e)
set_option maxRecDepth 100000 in
set_option maxHeartbeats 8000000 in
theorem member_any (t : List UInt8) (b mb p o : Nat) (ns : List (List UInt8)) (w : World) (f : Nat → JR JV) (CV : ∀ W q, JRb W b t q o → q ≤ t.length → Calls Tryz.prog 24 #[.pointer (some ⟨b, 0, none⟩)] W (ValJ t W b o (f q)))
    (h : JRb w b t p o) (hm : NamM w mb ns) (hne : mb ≠ b) (hns : ns.length ≤ 1000000) (hp : p ≤ t.length) (hl : t.length ≤ 1000000) :
    Calls Tryz.prog 64 #[.pointer (some ⟨b, 0, none⟩), .map (some mb)] w (MemJ t w b mb o ns (memP f t ns p)) := by
  have hb := h.lt
  have hmlt := hm.lt
  have CV := Lib.hid CV
  obtain ⟨R, hR⟩ : ∃ R, R = memP f t ns p := ⟨_, rfl⟩
  rw [← hR]
  have HR := Lib.hid hR
  clear hR
  obtain ⟨Wa, hWa⟩ : ∃ Wa, Wa = w.alloc (.cells #[.string ⟨#[]⟩, .int .i64 0, .int .i64 0, .string ⟨#[]⟩, .slice none 0 0, .slice none 0 0] 53) := ⟨_, rfl⟩
  have hba : Below w.heap.size w Wa := by rw [hWa]; exact below_alloc _ _
  have hbx : Wa.heap[w.heap.size]? = some (.cells #[str [], .int .i64 0, .int .i64 0, str [], .slice none 0 0, .slice none 0 0] 53 (0, 0)) := by rw [hWa]; exact heap_alloc_new w _
  have CN := Lib.hid (next_any t b p o Wa (h.below hba) hp (by omega))
  have hmz : Wa.heap.size = w.heap.size + 1 := by rw [hWa]; simp
  have HA : Hid (Frm (fun i => i = b ∨ i = mb) w Wa ∧ Wa.heap[w.heap.size]? = some (.cells #[str [], .int .i64 0, .int .i64 0, str [], .slice none 0 0, .slice none 0 0] 53 (0, 0)) ∧ NamM Wa mb ns ∧ Wa.heap.size = w.heap.size + 1) := Lib.hid ⟨Frm.of_below hba, hbx, hm.up hba, hmz⟩
  have hs := skp_le t hp
  clear hba hbx hmz h hm
  cases hx : t[skp t p]? with
  | none =>
    obtain ⟨e1, e2⟩ := nx_none hx
    rw [e1, e2] at CN
    have HE : Hid (R = .err 2) := Lib.hid (by rw [HR.out]; unfold memP; rw [if_pos (by have := List.getElem?_eq_none_iff.1 hx; omega)])
    clear hx e1 e2 HR
    go_enter Tryz.func64, Tryz.ntmps64
    go_wp2_with fail
    rw [← hWa]
    refine CN.out.mono ?_
    rintro e w1 ⟨rfl, h1⟩
    have hbx1 := box_frm HA.out.2.1 h1.2 (fun e => by omega)
    have d0 := box_cell hbx1 0
    have d1 := box_cell hbx1 1
    have d2 := box_cell hbx1 2
    have d3 := box_cell hbx1 3
    have d4 := box_cell hbx1 4
    have d5 := box_cell hbx1 5
    have df := box_fr hbx1
    have H1 := Lib.hid (And.intro h1 hbx1)
    clear h1 hbx1 CN hWa
    go_wp2_with fail
    refine bodyPost_any_world (fun X => X.heap[w.heap.size]? = some (.cells #[str [], .int .i64 0, .int .i64 0, str [], .slice none 0 0, .slice none 0 0] 53 (0, 0)) ∧ Frm (fun i => i = w.heap.size) w1 X) (six_set (H1.out.2) _ _ _ _ _ _) ?_
    clear d0 d1 d2 d3 d4 d5 df
    rintro w9 ⟨h9, hf9⟩
    have k0 := box_cell h9 0
    have k1 := box_cell h9 1
    have k2 := box_cell h9 2
    have k3 := box_cell h9 3
    have k4 := box_cell h9 4
    have k5 := box_cell h9 5
    refine bodyPost_ret (v := .tuple #[.agg #[str [], .int .i64 0, .int .i64 0, str [], .slice none 0 0, .slice none 0 0], .int .i64 2]) (by simp [results, Tryz.results64, go_sem, k0, k1, k2, k3, k4, k5]) rfl ?_
    rw [HE.out]
    exact memErr (frm_bm HA.out.1 H1.out.1.2) hb (H1.out.1.1) hf9 (by decide)
  | some c0 =>
    obtain ⟨e1, e2, hlt⟩ := nx_some hx
    rw [e1, e2] at CN
    have HM : Hid (R = match txtP t (skp t p) with
      | .err e => .err e
      | .ok name q => if name ∈ ns then .err 4 else
        match t[skp t q]? with
        | none => .err 2
        | some d => if d ≠ 58 then .err 4 else
          match f (skp t q + 1) with
          | .err e => .err e
          | .ok v r => .ok (name, v) r) := Lib.hid (by rw [HR.out, memP, if_neg (by omega)]; rfl)
    obtain ⟨q0, hq0⟩ : ∃ q0, q0 = skp t p := ⟨_, rfl⟩
    rw [← hq0] at CN HM
    clear hx e1 e2 HR hlt hs hq0
    go_enter Tryz.func64, Tryz.ntmps64
    go_wp2_with fail
    rw [← hWa]
    clear hWa
    refine CN.out.mono ?_
    rintro e w1 ⟨rfl, h1⟩
    have H1 : Hid (Frm (fun i => i = b ∨ i = mb) w w1 ∧ w1.heap[w.heap.size]? = some (.cells #[str [], .int .i64 0, .int .i64 0, str [], .slice none 0 0, .slice none 0 0] 53 (0, 0)) ∧ NamM w1 mb ns ∧ w.heap.size < w1.heap.size) := Lib.hid ⟨frm_bm HA.out.1 h1.2, box_frm HA.out.2.1 h1.2 (fun e => by omega), HA.out.2.2.1.frm h1.2 hne, by have := HA.out.2.2.2; have := h1.2.size; omega⟩
    have CT := Lib.hid (jtext_any t b q0 o w1 h1.1 (by omega))
    clear h1 CN HA
    go_wp2_with fail
    refine CT.out.mono ?_
    intro e w2 h2
    cases hx : txtP t q0 with
    | err c =>
      rw [hx] at h2
      obtain ⟨rfl, hc, q', o', hs2⟩ := h2
      have HE : Hid (R = .err c) := Lib.hid (by rw [HM.out, hx])
      have hbx1 := box_frm H1.out.2.1 hs2.2 (fun e => by omega)
      have d0 := box_cell hbx1 0
      have d1 := box_cell hbx1 1
      have d2 := box_cell hbx1 2
      have d3 := box_cell hbx1 3
      have d4 := box_cell hbx1 4
      have d5 := box_cell hbx1 5
      have df := box_fr hbx1
      have hc0 : ((c : Int) != 0) = true := by rw [bne_iff_ne]; omega
      have H2 := Lib.hid (And.intro hs2 (And.intro hbx1 hc))
      clear hs2 hbx1 CT hc HM
      go_wp2_with fail
      refine bodyPost_any_world (fun X => X.heap[w.heap.size]? = some (.cells #[str [], .int .i64 0, .int .i64 0, str [], .slice none 0 0, .slice none 0 0] 53 (0, 0)) ∧ Frm (fun i => i = w.heap.size) w2 X) (six_set (H2.out.2.1) _ _ _ _ _ _) ?_
      clear d0 d1 d2 d3 d4 d5 df
      rintro w9 ⟨h9, hf9⟩
      have k0 := box_cell h9 0
      have k1 := box_cell h9 1
      have k2 := box_cell h9 2
      have k3 := box_cell h9 3
      have k4 := box_cell h9 4
      have k5 := box_cell h9 5
      refine bodyPost_ret (v := .tuple #[.agg #[str [], .int .i64 0, .int .i64 0, str [], .slice none 0 0, .slice none 0 0], .int .i64 (c : Int)]) (by simp [results, Tryz.results64, go_sem, k0, k1, k2, k3, k4, k5]) rfl ?_
      rw [HE.out]
      exact memErr (frm_bm H1.out.1 H2.out.1.2) hb (H2.out.1.1) hf9 H2.out.2.2
    | ok name q =>
      rw [hx] at h2
      obtain ⟨rfl, hs2, hq, hnl⟩ := h2
      obtain ⟨n, D, hown, hn, hIs, hat⟩ := H1.out.2.2.1.frm hs2.2 hne
      have hkey : keyOf Tryz.prog 9 (str name) = some (.string name) := Go.WideMaps.keyOf_string_mk Tryz.underlying9 (by simp [ByteArray.size, maxLen]; omega)
      have hatn := hat name
      have HI := Lib.hid (And.intro hn (And.intro hIs hat))
      have HM2 := HM.out
      rw [hx] at HM2
      dsimp only at HM2
      have H2 : Hid (Frm (fun i => i = b ∨ i = mb) w w2 ∧ w2.heap[w.heap.size]? = some (.cells #[str [], .int .i64 0, .int .i64 0, str [], .slice none 0 0, .slice none 0 0] 53 (0, 0)) ∧ JRb w2 b t q o ∧ w.heap.size < w2.heap.size) := Lib.hid ⟨frm_bm H1.out.1 hs2.2, box_frm H1.out.2.1 hs2.2 (fun e => by omega), hs2.1, by have := H1.out.2.2.2; have := hs2.2.size; omega⟩
      have hn2 : n < maxLen := by unfold maxLen; omega
      clear hs2 hx HM CT H1 hat hn hIs
      by_cases hin : name ∈ ns
      · rw [if_pos hin] at hatn HM2
        have HE := Lib.hid HM2
        clear HM2 hin
        go_wp2_with (at_lookup; refine hold ?_)
        intro _
        refine wpList_lookup_own_int _ rfl _ _ 104 rfl 9 3 .i64 lawS Tryz.underlying104 Tryz.underlying3 (zeroI _) mb n D rfl hown (str name) (.string name) rfl hkey ?_
        intro c hc _
        obtain rfl : c = 1 := by rw [hatn] at hc; simpa using hc.symm
        clear hc
        go_wp2_with (at_mapUpdate; refine hold ?_)
        intro _
        refine wpList_mapUpdate_own _ rfl _ _ _ 104 rfl 9 3 lawS Tryz.underlying104 _ mb n D rfl hown hn2 _ _ _ rfl rfl hkey _ [] (plainElem_int Tryz.underlying3 (by decide)) ?_
        intro w3 hown3 hg3
        have hat2 : (D.put (.string name) (.lit (.int .i64 2))).atKey (.string name) (.lit (.int .i64 0)) = .lit (.int .i64 2) := atKey_put_same HI.out.2.1 (by simp [WideAt.IsKeyLit]) _ _
        have hf3 : Frm (fun i => i = mb) w2 w3 := Frm.of_grown hg3 (fun k hk => by cases hk; rfl)
        have H3 : Hid (Frm (fun i => i = b ∨ i = mb) w w3 ∧ w3.heap[w.heap.size]? = some (.cells #[str [], .int .i64 0, .int .i64 0, str [], .slice none 0 0, .slice none 0 0] 53 (0, 0)) ∧ JRb w3 b t q o) := Lib.hid ⟨H2.out.1.trans hf3 (fun _ _ e => .inr e), box_frm H2.out.2.1 hf3 (fun e => by omega), H2.out.2.2.1.frm hf3 (fun e => hne e.symm)⟩
        have hbx1 := H3.out.2.1
        have d0 := box_cell hbx1 0
        have d1 := box_cell hbx1 1
        have d2 := box_cell hbx1 2
        have d3 := box_cell hbx1 3
        have d4 := box_cell hbx1 4
        have d5 := box_cell hbx1 5
        have df := box_fr hbx1
        clear hown hg3 hf3 H2 hbx1
        go_wp2_with (at_lookup; refine hold ?_)
        intro _
        refine wpList_lookup_own_int _ rfl _ _ 104 rfl 9 3 .i64 lawS Tryz.underlying104 Tryz.underlying3 (zeroI _) mb (n + 1) _ rfl hown3 (str name) (.string name) rfl hkey ?_
        intro c hc _
        obtain rfl : c = 2 := by have e := hat2.symm.trans hc; simpa using e.symm
        clear hc hown3 hkey hatn hat2
        go_wp2_with fail
        refine bodyPost_any_world (fun X => X.heap[w.heap.size]? = some (.cells #[str [], .int .i64 0, .int .i64 0, str [], .slice none 0 0, .slice none 0 0] 53 (0, 0)) ∧ Frm (fun i => i = w.heap.size) w3 X) (six_set (H3.out.2.1) _ _ _ _ _ _) ?_
        clear d0 d1 d2 d3 d4 d5 df
        rintro w9 ⟨h9, hf9⟩
        have k0 := box_cell h9 0
        have k1 := box_cell h9 1
        have k2 := box_cell h9 2
        have k3 := box_cell h9 3
        have k4 := box_cell h9 4
        have k5 := box_cell h9 5
        refine bodyPost_ret (v := .tuple #[.agg #[str [], .int .i64 0, .int .i64 0, str [], .slice none 0 0, .slice none 0 0], .int .i64 4]) (by simp [results, Tryz.results64, go_sem, k0, k1, k2, k3, k4, k5]) rfl ?_
        rw [HE.out]
        exact memErr (H3.out.1) hb (H3.out.2.2) hf9 (by decide)
      · rw [if_neg hin] at hatn HM2
        have HM := Lib.hid HM2
        clear HM2 hin
        go_wp2_with (at_lookup; refine hold ?_)
        intro _
        refine wpList_lookup_own_int _ rfl _ _ 104 rfl 9 3 .i64 lawS Tryz.underlying104 Tryz.underlying3 (zeroI _) mb n D rfl hown (str name) (.string name) rfl hkey ?_
        intro c hc _
        obtain rfl : c = 0 := by rw [hatn] at hc; simpa using hc.symm
        clear hc
        go_wp2_with (at_mapUpdate; refine hold ?_)
        intro _
        refine wpList_mapUpdate_own _ rfl _ _ _ 104 rfl 9 3 lawS Tryz.underlying104 _ mb n D rfl hown hn2 _ _ _ rfl rfl hkey _ [] (plainElem_int Tryz.underlying3 (by decide)) ?_
        intro w3 hown3 hg3
        have hat2 : (D.put (.string name) (.lit (.int .i64 1))).atKey (.string name) (.lit (.int .i64 0)) = .lit (.int .i64 1) := atKey_put_same HI.out.2.1 (by simp [WideAt.IsKeyLit]) _ _
        have hf3 : Frm (fun i => i = mb) w2 w3 := Frm.of_grown hg3 (fun k hk => by cases hk; rfl)
        have HNN : Hid (NamM w3 mb (ns ++ [name])) := Lib.hid (NamM.put hown3 HI.out.1 HI.out.2.1 HI.out.2.2)
        have H3 : Hid (Frm (fun i => i = b ∨ i = mb) w w3 ∧ w3.heap[w.heap.size]? = some (.cells #[str [], .int .i64 0, .int .i64 0, str [], .slice none 0 0, .slice none 0 0] 53 (0, 0)) ∧ JRb w3 b t q o ∧ w.heap.size < w3.heap.size) := Lib.hid ⟨H2.out.1.trans hf3 (fun _ _ e => .inr e), box_frm H2.out.2.1 hf3 (fun e => by omega), H2.out.2.2.1.frm hf3 (fun e => hne e.symm), by have := H2.out.2.2.2; have := hf3.size; omega⟩
        have CN := Lib.hid (next_any t b q o w3 H3.out.2.2.1 hq (by omega))
        have hs := skp_le t hq
        clear hown hg3 hf3 H2
        go_wp2_with (at_lookup; refine hold ?_)
        intro _
        refine wpList_lookup_own_int _ rfl _ _ 104 rfl 9 3 .i64 lawS Tryz.underlying104 Tryz.underlying3 (zeroI _) mb (n + 1) _ rfl hown3 (str name) (.string name) rfl hkey ?_
        intro c hc _
        obtain rfl : c = 1 := by have e := hat2.symm.trans hc; simpa using e.symm
        clear hc hown3 hkey hatn hat2 HI hn2
        go_wp2_with fail
        refine CN.out.mono ?_
        rintro e w4 ⟨rfl, h4⟩
        have H4 : Hid (Frm (fun i => i = b ∨ i = mb) w w4 ∧ w4.heap[w.heap.size]? = some (.cells #[str [], .int .i64 0, .int .i64 0, str [], .slice none 0 0, .slice none 0 0] 53 (0, 0)) ∧ NamM w4 mb (ns ++ [name]) ∧ w.heap.size < w4.heap.size ∧ JRb w4 b t (skp t q) o) := Lib.hid ⟨frm_bm H3.out.1 h4.2, box_frm H3.out.2.1 h4.2 (fun e => by omega), HNN.out.frm h4.2 hne, by have := H3.out.2.2.2; have := h4.2.size; omega, h4.1⟩
        clear h4 CN H3 HNN
        obtain ⟨q4, hq4⟩ : ∃ q4, q4 = skp t q := ⟨_, rfl⟩
        rw [← hq4] at H4 HM hs
        cases hx : t[skp t q]? with
        | none =>
          obtain ⟨e1, e2⟩ := nx_none hx
          rw [e1, e2]
          have HE : Hid (R = .err 2) := Lib.hid (by rw [HM.out, hq4, hx])
          have hbx1 := H4.out.2.1
          have d0 := box_cell hbx1 0
          have d1 := box_cell hbx1 1
          have d2 := box_cell hbx1 2
          have d3 := box_cell hbx1 3
          have d4 := box_cell hbx1 4
          have d5 := box_cell hbx1 5
          have df := box_fr hbx1
          clear hbx1 HM hx e1 e2 hq4
          go_wp2_with fail
          refine bodyPost_any_world (fun X => X.heap[w.heap.size]? = some (.cells #[str [], .int .i64 0, .int .i64 0, str [], .slice none 0 0, .slice none 0 0] 53 (0, 0)) ∧ Frm (fun i => i = w.heap.size) w4 X) (six_set (H4.out.2.1) _ _ _ _ _ _) ?_
          clear d0 d1 d2 d3 d4 d5 df
          rintro w9 ⟨h9, hf9⟩
          have k0 := box_cell h9 0
          have k1 := box_cell h9 1
          have k2 := box_cell h9 2
          have k3 := box_cell h9 3
          have k4 := box_cell h9 4
          have k5 := box_cell h9 5
          refine bodyPost_ret (v := .tuple #[.agg #[str [], .int .i64 0, .int .i64 0, str [], .slice none 0 0, .slice none 0 0], .int .i64 2]) (by simp [results, Tryz.results64, go_sem, k0, k1, k2, k3, k4, k5]) rfl ?_
          rw [HE.out]
          exact memErr (H4.out.1) hb (H4.out.2.2.2.2) hf9 (by decide)
        | some d =>
          obtain ⟨e1, e2, hlt⟩ := nx_some hx
          rw [e1, e2]
          have HM2 := HM.out
          rw [hq4, hx] at HM2
          dsimp only at HM2
          rw [← hq4] at HM2 hlt
          clear e1 e2 hx hq4 HM
          by_cases hd : d = 58
          · rw [if_neg (by simpa using hd)] at HM2
            have HM := Lib.hid HM2
            have n1 : ((d.toNat : Int) != 58) = false := by rw [hd]; rfl
            have c1 := H4.out.2.2.2.2.c1
            have f1 := H4.out.2.2.2.2.fr 1
            have hf5 : Frm (fun i => i = b) w4 (w4.setCell ⟨b, 1, none⟩ (.int .i64 ((q4 : Int) + 1))) := Frm.set _ rfl
            have H5 := Lib.hid (And.intro (frm_bm H4.out.1 hf5) (And.intro (box_frm H4.out.2.1 hf5 (fun e => by omega)) (And.intro (H4.out.2.2.1.frm hf5 hne) (H4.out.2.2.2.2.setAt (q4 + 1) ((q4 : Int) + 1) (by omega)))))
            have hz5 : w.heap.size < (w4.setCell ⟨b, 1, none⟩ (.int .i64 ((q4 : Int) + 1))).heap.size := by have := H4.out.2.2.2.1; simpa using this
            have CV5 := Lib.hid (CV.out _ (q4 + 1) H5.out.2.2.2 (by omega))
            clear HM2 hd H4 hf5
            go_wp2_with fail
            generalize w4.setCell ⟨b, 1, none⟩ (.int .i64 ((q4 : Int) + 1)) = w5 at *
            refine CV5.out.mono ?_
            intro e w6 h6
            clear CV5 c1 f1
            cases hx : f (q4 + 1) with
            | err c =>
              rw [hx] at h6
              obtain ⟨v, cs, rfl, hc, hv, q', o', hs6⟩ := h6
              have HE : Hid (R = .err c) := Lib.hid (by rw [HM.out, hx])
              have HV := Lib.hid hv
              obtain ⟨al, ll, cl, am, lm, cm, rfl, _, _⟩ := hv.open
              have H6 : Hid (Frm (fun i => i = b ∨ i = mb) w w6 ∧ w6.heap[w.heap.size]? = some (.cells #[str [], .int .i64 0, .int .i64 0, str [], .slice none 0 0, .slice none 0 0] 53 (0, 0)) ∧ JRb w6 b t q' o' ∧ w.heap.size < w6.heap.size) := Lib.hid ⟨frm_bm H5.out.1 hs6.2, box_frm H5.out.2.1 hs6.2 (fun e => by omega), hs6.1, by have := hs6.2.size; omega⟩
              have hc0 : ((c : Int) == 0) = false := by rw [beq_eq_false_iff_ne]; omega
              have HC := Lib.hid hc
              clear hv hs6 H5 hx HM hc
              go_upto_region 17 with fail
              refine wp_any_world (fun X => Below w6.heap.size w6 X ∧ X.heap[w6.heap.size]? = some (.cells #[.int .i64 v.kind, .int .i64 v.n, str v.s, .slice al ll cl, .slice am lm cm] 28 (0, 0))) ⟨below_alloc _ _, heap_alloc_new _ _⟩ ?_
              rintro w7 ⟨hb7, hx7⟩
              have hbx1 := box_up H6.out.2.1 hb7
              have d0 := box_cell hbx1 0
              have d1 := box_cell hbx1 1
              have d2 := box_cell hbx1 2
              have d3 := box_cell hbx1 3
              have d4 := box_cell hbx1 4
              have d5 := box_cell hbx1 5
              have df := box_fr hbx1
              have p0 := box_cell hx7 0
              have p1 := box_cell hx7 1
              have p2 := box_cell hx7 2
              have p3 := box_cell hx7 3
              have p4 := box_cell hx7 4
              have pf := box_fr hx7
              have H7 := Lib.hid (And.intro (H6.out.1.trans (Frm.of_below (F := fun _ => False) hb7) (fun _ _ e => e.elim)) (And.intro hbx1 (And.intro (H6.out.2.2.1.below hb7) (HV.out.up hb7))))
              clear hbx1 hx7 hb7 H6
              go_wp2_with fail
              refine bodyPost_any_world (fun X => X.heap[w.heap.size]? = some (.cells #[str name, .int .i64 v.kind, .int .i64 v.n, str v.s, .slice al ll cl, .slice am lm cm] 53 (0, 0)) ∧ Frm (fun i => i = w.heap.size) w7 X) (six_set H7.out.2.1 _ _ _ _ _ _) ?_
              clear d0 d1 d2 d3 d4 d5 df p0 p1 p2 p3 p4 pf
              rintro w9 ⟨h9, hf9⟩
              have k0 := box_cell h9 0
              have k1 := box_cell h9 1
              have k2 := box_cell h9 2
              have k3 := box_cell h9 3
              have k4 := box_cell h9 4
              have k5 := box_cell h9 5
              refine bodyPost_ret (v := .tuple #[.agg #[str name, .int .i64 v.kind, .int .i64 v.n, str v.s, .slice al ll cl, .slice am lm cm], .int .i64 (c : Int)]) (by simp [results, Tryz.results64, go_sem, k0, k1, k2, k3, k4, k5]) rfl ?_
              rw [HE.out]
              exact ⟨(name, v), [.int .i64 v.kind, .int .i64 v.n, str v.s, .slice al ll cl, .slice am lm cm], rfl, HC.out, (H7.out.2.2.2.frm hf9 (fun i hi e => by omega)).mono (fun i _ hi => by omega), H7.out.1.trans hf9 (fun i hi e => by omega), q', o', H7.out.2.2.1.frm hf9 (by omega)⟩
            | ok v q7 =>
              rw [hx] at h6
              obtain ⟨cs, rfl, hv, hs6, hq7⟩ := h6
              have HE : Hid (R = .ok (name, v) q7) := Lib.hid (by rw [HM.out, hx])
              have HV := Lib.hid hv
              obtain ⟨al, ll, cl, am, lm, cm, rfl, _, _⟩ := hv.open
              have H6 : Hid (Frm (fun i => i = b ∨ i = mb) w w6 ∧ w6.heap[w.heap.size]? = some (.cells #[str [], .int .i64 0, .int .i64 0, str [], .slice none 0 0, .slice none 0 0] 53 (0, 0)) ∧ JRb w6 b t q7 o ∧ w.heap.size < w6.heap.size) := Lib.hid ⟨frm_bm H5.out.1 hs6.2, box_frm H5.out.2.1 hs6.2 (fun e => by omega), hs6.1, by have := hs6.2.size; omega⟩
              have HC := Lib.hid (And.intro hq7 (H5.out.2.2.1.frm hs6.2 hne))
              clear hv hs6 H5 hx HM hq7
              go_upto_region 17 with fail
              refine wp_any_world (fun X => Below w6.heap.size w6 X ∧ X.heap[w6.heap.size]? = some (.cells #[.int .i64 v.kind, .int .i64 v.n, str v.s, .slice al ll cl, .slice am lm cm] 28 (0, 0))) ⟨below_alloc _ _, heap_alloc_new _ _⟩ ?_
              rintro w7 ⟨hb7, hx7⟩
              have hbx1 := box_up H6.out.2.1 hb7
              have d0 := box_cell hbx1 0
              have d1 := box_cell hbx1 1
              have d2 := box_cell hbx1 2
              have d3 := box_cell hbx1 3
              have d4 := box_cell hbx1 4
              have d5 := box_cell hbx1 5
              have df := box_fr hbx1
              have p0 := box_cell hx7 0
              have p1 := box_cell hx7 1
              have p2 := box_cell hx7 2
              have p3 := box_cell hx7 3
              have p4 := box_cell hx7 4
              have pf := box_fr hx7
              have H7 := Lib.hid (And.intro (H6.out.1.trans (Frm.of_below (F := fun _ => False) hb7) (fun _ _ e => e.elim)) (And.intro hbx1 (And.intro (H6.out.2.2.1.below hb7) (HV.out.up hb7))))
              have HNM := Lib.hid (HC.out.2.up hb7)
              clear hbx1 hx7 hb7 H6
              go_wp2_with fail
              refine bodyPost_any_world (fun X => X.heap[w.heap.size]? = some (.cells #[str name, .int .i64 v.kind, .int .i64 v.n, str v.s, .slice al ll cl, .slice am lm cm] 53 (0, 0)) ∧ Frm (fun i => i = w.heap.size) w7 X) (six_set H7.out.2.1 _ _ _ _ _ _) ?_
              clear d0 d1 d2 d3 d4 d5 df p0 p1 p2 p3 p4 pf
              rintro w9 ⟨h9, hf9⟩
              have k0 := box_cell h9 0
              have k1 := box_cell h9 1
              have k2 := box_cell h9 2
              have k3 := box_cell h9 3
              have k4 := box_cell h9 4
              have k5 := box_cell h9 5
              refine bodyPost_ret (v := .tuple #[.agg #[str name, .int .i64 v.kind, .int .i64 v.n, str v.s, .slice al ll cl, .slice am lm cm], .int .i64 0]) (by simp [results, Tryz.results64, go_sem, k0, k1, k2, k3, k4, k5]) rfl ?_
              rw [HE.out]
              exact ⟨[.int .i64 v.kind, .int .i64 v.n, str v.s, .slice al ll cl, .slice am lm cm], rfl, (H7.out.2.2.2.frm hf9 (fun i hi e => by omega)).mono (fun i _ hi => by omega), H7.out.1.trans hf9 (fun i hi e => by omega), H7.out.2.2.1.frm hf9 (by omega), HC.out.1, HNM.out.frm hf9 (by omega)⟩
          · rw [if_pos (by simpa using hd)] at HM2
            have HE := Lib.hid HM2
            have n1 : ((d.toNat : Int) != 58) = true := by
              rw [bne_iff_ne]; intro h; exact hd (UInt8.toNat_inj.1 (by have : (58 : UInt8).toNat = 58 := rfl; omega))
            have hbx1 := H4.out.2.1
            have d0 := box_cell hbx1 0
            have d1 := box_cell hbx1 1
            have d2 := box_cell hbx1 2
            have d3 := box_cell hbx1 3
            have d4 := box_cell hbx1 4
            have d5 := box_cell hbx1 5
            have df := box_fr hbx1
            clear hbx1 HM2 hd
            go_wp2_with fail
            refine bodyPost_any_world (fun X => X.heap[w.heap.size]? = some (.cells #[str [], .int .i64 0, .int .i64 0, str [], .slice none 0 0, .slice none 0 0] 53 (0, 0)) ∧ Frm (fun i => i = w.heap.size) w4 X) (six_set (H4.out.2.1) _ _ _ _ _ _) ?_
            clear d0 d1 d2 d3 d4 d5 df
            rintro w9 ⟨h9, hf9⟩
            have k0 := box_cell h9 0
            have k1 := box_cell h9 1
            have k2 := box_cell h9 2
            have k3 := box_cell h9 3
            have k4 := box_cell h9 4
            have k5 := box_cell h9 5
            refine bodyPost_ret (v := .tuple #[.agg #[str [], .int .i64 0, .int .i64 0, str [], .slice none 0 0, .slice none 0 0], .int .i64 4]) (by simp [results, Tryz.results64, go_sem, k0, k1, k2, k3, k4, k5]) rfl ?_
            rw [HE.out]
            exact memErr (H4.out.1) hb (H4.out.2.2.2.2) hf9 (by decide)
end Go.Proofs.YtidlhajibjnkeaaGreatDoor
