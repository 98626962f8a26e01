import Derived.Test.YtidlhajibjnkeaaGreatDoorJVal
import Derived.Maps.Own
import Derived.Maps.OwnOps
import Derived.Maps.Views
import Derived.Ground.SlsfProg
import Derived.Shelf.SlSortCmp.WholeK
import Derived.Test.YtidlhajibjnkeaaGreatDoorProg
import Derived.Shelf.Small.Strs
import Derived.Test.YtidlhajibjnkeaaGreatDoorBl
/- JSON: member. -/
namespace Go.Proofs.YtidlhajibjnkeaaGreatDoor
open Go.RowKit Go.Maps

theorem lawS : Keyed Tryz.prog 9 := string_keyed Tryz.underlying9
/-- A map of names, each told once. -/
def NamM (W : World) (mb : Nat) (ns : List (List UInt8)) : Prop :=
  ∃ (n : Nat) (D : DataW Unit), W.ownsMap Tryz.prog 9 (plainElem Tryz.prog 3) mb n D ∧ n ≤ ns.length ∧ IsMap D ∧ ∀ k : List UInt8, D.atKey (.string k) (.lit (.int .i64 0)) = .lit (.int .i64 (if k ∈ ns then 1 else 0))
theorem NamM.made (w : World) : NamM (w.alloc (.map #[] 0)) w.heap.size [] := ⟨0, .map [], World.ownsMap_made _ _ _ _, Nat.le_refl _, isMap_empty, fun k => by simp [DataW.atKey]⟩
theorem NamM.frm {W W' : World} {mb : Nat} {ns : List (List UInt8)} {G : Nat → Prop} (h : NamM W mb ns) (hf : Frm G W W') (hn : ¬ G mb) : NamM W' mb ns := by
  obtain ⟨n, D, ⟨es, clock, hb, rest⟩, h2⟩ := h
  exact ⟨n, D, ⟨es, clock, box_frm hb hf hn, rest⟩, h2⟩
theorem NamM.up {W W' : World} {mb : Nat} {ns : List (List UInt8)} (h : NamM W mb ns) (hb : Below W.heap.size W W') : NamM W' mb ns := h.frm (Frm.of_below (F := fun _ => False) hb) (fun h => h)
theorem NamM.lt {W : World} {mb : Nat} {ns : List (List UInt8)} (h : NamM W mb ns) : mb < W.heap.size := by
  obtain ⟨n, D, h1, _⟩ := h
  exact h1.lt
theorem NamM.put {n : Nat} {ns : List (List UInt8)} {D : DataW Unit} {name : List UInt8} {mb : Nat} {W : World} (h : W.ownsMap Tryz.prog 9 (plainElem Tryz.prog 3) mb (n + 1) (D.put (.string name) (.lit (.int .i64 1)))) (hn : n ≤ ns.length) (hm : IsMap D)
    (hat : ∀ k : List UInt8, D.atKey (.string k) (.lit (.int .i64 0)) = .lit (.int .i64 (if k ∈ ns then 1 else 0))) : NamM W mb (ns ++ [name]) := by
  refine ⟨n + 1, _, h, by simp; omega, hm.put _ _, fun k => ?_⟩
  by_cases e : k = name
  · subst e
    rw [atKey_put_same hm (by simp [WideAt.IsKeyLit])]
    simp
  · rw [atKey_put_other (fun h => e (by injection h)), hat]
    simp [e]
theorem infoM : (Tryz.prog.info? 53).map (fun i => (i.zero, i.size, i.bytes)) = some (some (.agg #[str [], .int .i64 0, .int .i64 0, str [], .slice none 0 0, .slice none 0 0]), 6, 96) := by kernel_rfl
/-- What member tells. -/
def MemJ (t : List UInt8) (w : World) (b mb o : Nat) (ns : List (List UInt8)) (r : JR MemT) (e : Ending) (w' : World) : Prop :=
  match r with
  | .err c => ∃ (m : MemT) (cs : List Value), e = .returned (.tuple #[.agg (str m.1 :: cs).toArray, .int .i64 (c : Int)]) ∧ c ≠ 0 ∧ RdJ w' (fun i => w.heap.size ≤ i) m.2 cs ∧ Frm (fun i => i = b ∨ i = mb) w w' ∧ ∃ q o', JRb w' b t q o'
  | .ok m q => ∃ cs, e = .returned (.tuple #[.agg (str m.1 :: cs).toArray, .int .i64 0]) ∧ RdJ w' (fun i => w.heap.size ≤ i) m.2 cs ∧ Frm (fun i => i = b ∨ i = mb) w w' ∧ JRb w' b t q o ∧ q ≤ t.length ∧ NamM w' mb (ns ++ [m.1])
theorem zeroJ (W : World) (F : Nat → Prop) : RdJ W F (.mk 0 0 [] [] []) [.int .i64 0, .int .i64 0, str [], .slice none 0 0, .slice none 0 0] := by
  unfold RdJ
  exact ⟨_, _, rfl, ⟨[], RdFB.nil _ _ _, by unfold RdL; trivial⟩, [], RdFB.nil _ _ _, by unfold RdM; trivial⟩
end Go.Proofs.YtidlhajibjnkeaaGreatDoor

/- JSON: member: the walk. -/
namespace Go.Proofs.YtidlhajibjnkeaaGreatDoor
open Go.RowKit Go.Maps

theorem memErr {t : List UInt8} {w W w9 : World} {b mb o q o' c : Nat} {ns : List (List UInt8)} (hf : Frm (fun i => i = b ∨ i = mb) w W) (hb : b < w.heap.size) (hr : JRb W b t q o') (hf9 : Frm (fun i => i = w.heap.size) W w9) (hc : c ≠ 0) :
    MemJ t w b mb o ns (.err c) (.returned (.tuple #[.agg #[str [], .int .i64 0, .int .i64 0, str [], .slice none 0 0, .slice none 0 0], .int .i64 (c : Int)])) w9 :=
  ⟨([], .mk 0 0 [] [] []), [.int .i64 0, .int .i64 0, str [], .slice none 0 0, .slice none 0 0], rfl, hc, zeroJ _ _, hf.trans hf9 (fun i hi e => by omega), q, o', hr.frm hf9 (by omega)⟩
theorem zeroI (W : World) : (zeroValue 3).run Tryz.prog W = .ok (.int .i64 0) W := by kernel_rfl
theorem frm_bm {w W W' : World} {b mb : Nat} (h : Frm (fun i => i = b ∨ i = mb) w W) (k : Frm (fun i => i = b) W W') : Frm (fun i => i = b ∨ i = mb) w W' := h.trans k (fun _ _ e => .inl e)
set_option maxRecDepth 100000 in
set_option maxHeartbeats 8000000 in
theorem member_any (t : List UInt8) (b mb p o : Nat) (ns : List (List UInt8)) (w : World) (f : Nat → JR JV) (CV : ∀ W q, JRb W b t q o → q ≤ t.length → Calls Tryz.prog 24 #[.pointer (some ⟨b, 0, none⟩)] W (ValJ t W b o (f q)))
    (h : JRb w b t p o) (hm : NamM w mb ns) (hne : mb ≠ b) (hns : ns.length ≤ 1000000) (hp : p ≤ t.length) (hl : t.length ≤ 1000000) :
    Calls Tryz.prog 64 #[.pointer (some ⟨b, 0, none⟩), .map (some mb)] w (MemJ t w b mb o ns (memP f t ns p)) := by
  have hb := h.lt
  have hmlt := hm.lt
  have CV := Lib.hid CV
  obtain ⟨R, hR⟩ : ∃ R, R = memP f t ns p := ⟨_, rfl⟩
  rw [← hR]
  have HR := Lib.hid hR
  clear hR
  obtain ⟨Wa, hWa⟩ : ∃ Wa, Wa = w.alloc (.cells #[.string ⟨#[]⟩, .int .i64 0, .int .i64 0, .string ⟨#[]⟩, .slice none 0 0, .slice none 0 0] 53) := ⟨_, rfl⟩
  have hba : Below w.heap.size w Wa := by rw [hWa]; exact below_alloc _ _
  have hbx : Wa.heap[w.heap.size]? = some (.cells #[str [], .int .i64 0, .int .i64 0, str [], .slice none 0 0, .slice none 0 0] 53 (0, 0)) := by rw [hWa]; exact heap_alloc_new w _
  have CN := Lib.hid (next_any t b p o Wa (h.below hba) hp (by omega))
  have hmz : Wa.heap.size = w.heap.size + 1 := by rw [hWa]; simp
  have HA : Hid (Frm (fun i => i = b ∨ i = mb) w Wa ∧ Wa.heap[w.heap.size]? = some (.cells #[str [], .int .i64 0, .int .i64 0, str [], .slice none 0 0, .slice none 0 0] 53 (0, 0)) ∧ NamM Wa mb ns ∧ Wa.heap.size = w.heap.size + 1) := Lib.hid ⟨Frm.of_below hba, hbx, hm.up hba, hmz⟩
  have hs := skp_le t hp
  clear hba hbx hmz h hm
  cases hx : t[skp t p]? with
  | none =>
    obtain ⟨e1, e2⟩ := nx_none hx
    rw [e1, e2] at CN
    have HE : Hid (R = .err 2) := Lib.hid (by rw [HR.out]; unfold memP; rw [if_pos (by have := List.getElem?_eq_none_iff.1 hx; omega)])
    clear hx e1 e2 HR
    go_enter Tryz.func64, Tryz.ntmps64
    go_wp2_with fail
    rw [← hWa]
    refine CN.out.mono ?_
    rintro e w1 ⟨rfl, h1⟩
    have hbx1 := box_frm HA.out.2.1 h1.2 (fun e => by omega)
    have d0 := box_cell hbx1 0
    have d1 := box_cell hbx1 1
    have d2 := box_cell hbx1 2
    have d3 := box_cell hbx1 3
    have d4 := box_cell hbx1 4
    have d5 := box_cell hbx1 5
    have df := box_fr hbx1
    have H1 := Lib.hid (And.intro h1 hbx1)
    clear h1 hbx1 CN hWa
    go_wp2_with fail
    refine bodyPost_any_world (fun X => X.heap[w.heap.size]? = some (.cells #[str [], .int .i64 0, .int .i64 0, str [], .slice none 0 0, .slice none 0 0] 53 (0, 0)) ∧ Frm (fun i => i = w.heap.size) w1 X) (six_set (H1.out.2) _ _ _ _ _ _) ?_
    clear d0 d1 d2 d3 d4 d5 df
    rintro w9 ⟨h9, hf9⟩
    have k0 := box_cell h9 0
    have k1 := box_cell h9 1
    have k2 := box_cell h9 2
    have k3 := box_cell h9 3
    have k4 := box_cell h9 4
    have k5 := box_cell h9 5
    refine bodyPost_ret (v := .tuple #[.agg #[str [], .int .i64 0, .int .i64 0, str [], .slice none 0 0, .slice none 0 0], .int .i64 2]) (by simp [results, Tryz.results64, go_sem, k0, k1, k2, k3, k4, k5]) rfl ?_
    rw [HE.out]
    exact memErr (frm_bm HA.out.1 H1.out.1.2) hb (H1.out.1.1) hf9 (by decide)
  | some c0 =>
    obtain ⟨e1, e2, hlt⟩ := nx_some hx
    rw [e1, e2] at CN
    have HM : Hid (R = match txtP t (skp t p) with
      | .err e => .err e
      | .ok name q => if name ∈ ns then .err 4 else
        match t[skp t q]? with
        | none => .err 2
        | some d => if d ≠ 58 then .err 4 else
          match f (skp t q + 1) with
          | .err e => .err e
          | .ok v r => .ok (name, v) r) := Lib.hid (by rw [HR.out, memP, if_neg (by omega)]; rfl)
    obtain ⟨q0, hq0⟩ : ∃ q0, q0 = skp t p := ⟨_, rfl⟩
    rw [← hq0] at CN HM
    clear hx e1 e2 HR hlt hs hq0
    go_enter Tryz.func64, Tryz.ntmps64
    go_wp2_with fail
    rw [← hWa]
    clear hWa
    refine CN.out.mono ?_
    rintro e w1 ⟨rfl, h1⟩
    have H1 : Hid (Frm (fun i => i = b ∨ i = mb) w w1 ∧ w1.heap[w.heap.size]? = some (.cells #[str [], .int .i64 0, .int .i64 0, str [], .slice none 0 0, .slice none 0 0] 53 (0, 0)) ∧ NamM w1 mb ns ∧ w.heap.size < w1.heap.size) := Lib.hid ⟨frm_bm HA.out.1 h1.2, box_frm HA.out.2.1 h1.2 (fun e => by omega), HA.out.2.2.1.frm h1.2 hne, by have := HA.out.2.2.2; have := h1.2.size; omega⟩
    have CT := Lib.hid (jtext_any t b q0 o w1 h1.1 (by omega))
    clear h1 CN HA
    go_wp2_with fail
    refine CT.out.mono ?_
    intro e w2 h2
    cases hx : txtP t q0 with
    | err c =>
      rw [hx] at h2
      obtain ⟨rfl, hc, q', o', hs2⟩ := h2
      have HE : Hid (R = .err c) := Lib.hid (by rw [HM.out, hx])
      have hbx1 := box_frm H1.out.2.1 hs2.2 (fun e => by omega)
      have d0 := box_cell hbx1 0
      have d1 := box_cell hbx1 1
      have d2 := box_cell hbx1 2
      have d3 := box_cell hbx1 3
      have d4 := box_cell hbx1 4
      have d5 := box_cell hbx1 5
      have df := box_fr hbx1
      have hc0 : ((c : Int) != 0) = true := by rw [bne_iff_ne]; omega
      have H2 := Lib.hid (And.intro hs2 (And.intro hbx1 hc))
      clear hs2 hbx1 CT hc HM
      go_wp2_with fail
      refine bodyPost_any_world (fun X => X.heap[w.heap.size]? = some (.cells #[str [], .int .i64 0, .int .i64 0, str [], .slice none 0 0, .slice none 0 0] 53 (0, 0)) ∧ Frm (fun i => i = w.heap.size) w2 X) (six_set (H2.out.2.1) _ _ _ _ _ _) ?_
      clear d0 d1 d2 d3 d4 d5 df
      rintro w9 ⟨h9, hf9⟩
      have k0 := box_cell h9 0
      have k1 := box_cell h9 1
      have k2 := box_cell h9 2
      have k3 := box_cell h9 3
      have k4 := box_cell h9 4
      have k5 := box_cell h9 5
      refine bodyPost_ret (v := .tuple #[.agg #[str [], .int .i64 0, .int .i64 0, str [], .slice none 0 0, .slice none 0 0], .int .i64 (c : Int)]) (by simp [results, Tryz.results64, go_sem, k0, k1, k2, k3, k4, k5]) rfl ?_
      rw [HE.out]
      exact memErr (frm_bm H1.out.1 H2.out.1.2) hb (H2.out.1.1) hf9 H2.out.2.2
    | ok name q =>
      rw [hx] at h2
      obtain ⟨rfl, hs2, hq, hnl⟩ := h2
      obtain ⟨n, D, hown, hn, hIs, hat⟩ := H1.out.2.2.1.frm hs2.2 hne
      have hkey : keyOf Tryz.prog 9 (str name) = some (.string name) := Go.WideMaps.keyOf_string_mk Tryz.underlying9 (by simp [ByteArray.size, maxLen]; omega)
      have hatn := hat name
      have HI := Lib.hid (And.intro hn (And.intro hIs hat))
      have HM2 := HM.out
      rw [hx] at HM2
      dsimp only at HM2
      have H2 : Hid (Frm (fun i => i = b ∨ i = mb) w w2 ∧ w2.heap[w.heap.size]? = some (.cells #[str [], .int .i64 0, .int .i64 0, str [], .slice none 0 0, .slice none 0 0] 53 (0, 0)) ∧ JRb w2 b t q o ∧ w.heap.size < w2.heap.size) := Lib.hid ⟨frm_bm H1.out.1 hs2.2, box_frm H1.out.2.1 hs2.2 (fun e => by omega), hs2.1, by have := H1.out.2.2.2; have := hs2.2.size; omega⟩
      have hn2 : n < maxLen := by unfold maxLen; omega
      clear hs2 hx HM CT H1 hat hn hIs
      by_cases hin : name ∈ ns
      · rw [if_pos hin] at hatn HM2
        have HE := Lib.hid HM2
        clear HM2 hin
        go_wp2_with (at_lookup; refine hold ?_)
        intro _
        refine wpList_lookup_own_int _ rfl _ _ 104 rfl 9 3 .i64 lawS Tryz.underlying104 Tryz.underlying3 (zeroI _) mb n D rfl hown (str name) (.string name) rfl hkey ?_
        intro c hc _
        obtain rfl : c = 1 := by rw [hatn] at hc; simpa using hc.symm
        clear hc
        go_wp2_with (at_mapUpdate; refine hold ?_)
        intro _
        refine wpList_mapUpdate_own _ rfl _ _ _ 104 rfl 9 3 lawS Tryz.underlying104 _ mb n D rfl hown hn2 _ _ _ rfl rfl hkey _ [] (plainElem_int Tryz.underlying3 (by decide)) ?_
        intro w3 hown3 hg3
        have hat2 : (D.put (.string name) (.lit (.int .i64 2))).atKey (.string name) (.lit (.int .i64 0)) = .lit (.int .i64 2) := atKey_put_same HI.out.2.1 (by simp [WideAt.IsKeyLit]) _ _
        have hf3 : Frm (fun i => i = mb) w2 w3 := Frm.of_grown hg3 (fun k hk => by cases hk; rfl)
        have H3 : Hid (Frm (fun i => i = b ∨ i = mb) w w3 ∧ w3.heap[w.heap.size]? = some (.cells #[str [], .int .i64 0, .int .i64 0, str [], .slice none 0 0, .slice none 0 0] 53 (0, 0)) ∧ JRb w3 b t q o) := Lib.hid ⟨H2.out.1.trans hf3 (fun _ _ e => .inr e), box_frm H2.out.2.1 hf3 (fun e => by omega), H2.out.2.2.1.frm hf3 (fun e => hne e.symm)⟩
        have hbx1 := H3.out.2.1
        have d0 := box_cell hbx1 0
        have d1 := box_cell hbx1 1
        have d2 := box_cell hbx1 2
        have d3 := box_cell hbx1 3
        have d4 := box_cell hbx1 4
        have d5 := box_cell hbx1 5
        have df := box_fr hbx1
        clear hown hg3 hf3 H2 hbx1
        go_wp2_with (at_lookup; refine hold ?_)
        intro _
        refine wpList_lookup_own_int _ rfl _ _ 104 rfl 9 3 .i64 lawS Tryz.underlying104 Tryz.underlying3 (zeroI _) mb (n + 1) _ rfl hown3 (str name) (.string name) rfl hkey ?_
        intro c hc _
        obtain rfl : c = 2 := by have e := hat2.symm.trans hc; simpa using e.symm
        clear hc hown3 hkey hatn hat2
        go_wp2_with fail
        refine bodyPost_any_world (fun X => X.heap[w.heap.size]? = some (.cells #[str [], .int .i64 0, .int .i64 0, str [], .slice none 0 0, .slice none 0 0] 53 (0, 0)) ∧ Frm (fun i => i = w.heap.size) w3 X) (six_set (H3.out.2.1) _ _ _ _ _ _) ?_
        clear d0 d1 d2 d3 d4 d5 df
        rintro w9 ⟨h9, hf9⟩
        have k0 := box_cell h9 0
        have k1 := box_cell h9 1
        have k2 := box_cell h9 2
        have k3 := box_cell h9 3
        have k4 := box_cell h9 4
        have k5 := box_cell h9 5
        refine bodyPost_ret (v := .tuple #[.agg #[str [], .int .i64 0, .int .i64 0, str [], .slice none 0 0, .slice none 0 0], .int .i64 4]) (by simp [results, Tryz.results64, go_sem, k0, k1, k2, k3, k4, k5]) rfl ?_
        rw [HE.out]
        exact memErr (H3.out.1) hb (H3.out.2.2) hf9 (by decide)
      · rw [if_neg hin] at hatn HM2
        have HM := Lib.hid HM2
        clear HM2 hin
        go_wp2_with (at_lookup; refine hold ?_)
        intro _
        refine wpList_lookup_own_int _ rfl _ _ 104 rfl 9 3 .i64 lawS Tryz.underlying104 Tryz.underlying3 (zeroI _) mb n D rfl hown (str name) (.string name) rfl hkey ?_
        intro c hc _
        obtain rfl : c = 0 := by rw [hatn] at hc; simpa using hc.symm
        clear hc
        go_wp2_with (at_mapUpdate; refine hold ?_)
        intro _
        refine wpList_mapUpdate_own _ rfl _ _ _ 104 rfl 9 3 lawS Tryz.underlying104 _ mb n D rfl hown hn2 _ _ _ rfl rfl hkey _ [] (plainElem_int Tryz.underlying3 (by decide)) ?_
        intro w3 hown3 hg3
        have hat2 : (D.put (.string name) (.lit (.int .i64 1))).atKey (.string name) (.lit (.int .i64 0)) = .lit (.int .i64 1) := atKey_put_same HI.out.2.1 (by simp [WideAt.IsKeyLit]) _ _
        have hf3 : Frm (fun i => i = mb) w2 w3 := Frm.of_grown hg3 (fun k hk => by cases hk; rfl)
        have HNN : Hid (NamM w3 mb (ns ++ [name])) := Lib.hid (NamM.put hown3 HI.out.1 HI.out.2.1 HI.out.2.2)
        have H3 : Hid (Frm (fun i => i = b ∨ i = mb) w w3 ∧ w3.heap[w.heap.size]? = some (.cells #[str [], .int .i64 0, .int .i64 0, str [], .slice none 0 0, .slice none 0 0] 53 (0, 0)) ∧ JRb w3 b t q o ∧ w.heap.size < w3.heap.size) := Lib.hid ⟨H2.out.1.trans hf3 (fun _ _ e => .inr e), box_frm H2.out.2.1 hf3 (fun e => by omega), H2.out.2.2.1.frm hf3 (fun e => hne e.symm), by have := H2.out.2.2.2; have := hf3.size; omega⟩
        have CN := Lib.hid (next_any t b q o w3 H3.out.2.2.1 hq (by omega))
        have hs := skp_le t hq
        clear hown hg3 hf3 H2
        go_wp2_with (at_lookup; refine hold ?_)
        intro _
        refine wpList_lookup_own_int _ rfl _ _ 104 rfl 9 3 .i64 lawS Tryz.underlying104 Tryz.underlying3 (zeroI _) mb (n + 1) _ rfl hown3 (str name) (.string name) rfl hkey ?_
        intro c hc _
        obtain rfl : c = 1 := by have e := hat2.symm.trans hc; simpa using e.symm
        clear hc hown3 hkey hatn hat2 HI hn2
        go_wp2_with fail
        refine CN.out.mono ?_
        rintro e w4 ⟨rfl, h4⟩
        have H4 : Hid (Frm (fun i => i = b ∨ i = mb) w w4 ∧ w4.heap[w.heap.size]? = some (.cells #[str [], .int .i64 0, .int .i64 0, str [], .slice none 0 0, .slice none 0 0] 53 (0, 0)) ∧ NamM w4 mb (ns ++ [name]) ∧ w.heap.size < w4.heap.size ∧ JRb w4 b t (skp t q) o) := Lib.hid ⟨frm_bm H3.out.1 h4.2, box_frm H3.out.2.1 h4.2 (fun e => by omega), HNN.out.frm h4.2 hne, by have := H3.out.2.2.2; have := h4.2.size; omega, h4.1⟩
        clear h4 CN H3 HNN
        obtain ⟨q4, hq4⟩ : ∃ q4, q4 = skp t q := ⟨_, rfl⟩
        rw [← hq4] at H4 HM hs
        cases hx : t[skp t q]? with
        | none =>
          obtain ⟨e1, e2⟩ := nx_none hx
          rw [e1, e2]
          have HE : Hid (R = .err 2) := Lib.hid (by rw [HM.out, hq4, hx])
          have hbx1 := H4.out.2.1
          have d0 := box_cell hbx1 0
          have d1 := box_cell hbx1 1
          have d2 := box_cell hbx1 2
          have d3 := box_cell hbx1 3
          have d4 := box_cell hbx1 4
          have d5 := box_cell hbx1 5
          have df := box_fr hbx1
          clear hbx1 HM hx e1 e2 hq4
          go_wp2_with fail
          refine bodyPost_any_world (fun X => X.heap[w.heap.size]? = some (.cells #[str [], .int .i64 0, .int .i64 0, str [], .slice none 0 0, .slice none 0 0] 53 (0, 0)) ∧ Frm (fun i => i = w.heap.size) w4 X) (six_set (H4.out.2.1) _ _ _ _ _ _) ?_
          clear d0 d1 d2 d3 d4 d5 df
          rintro w9 ⟨h9, hf9⟩
          have k0 := box_cell h9 0
          have k1 := box_cell h9 1
          have k2 := box_cell h9 2
          have k3 := box_cell h9 3
          have k4 := box_cell h9 4
          have k5 := box_cell h9 5
          refine bodyPost_ret (v := .tuple #[.agg #[str [], .int .i64 0, .int .i64 0, str [], .slice none 0 0, .slice none 0 0], .int .i64 2]) (by simp [results, Tryz.results64, go_sem, k0, k1, k2, k3, k4, k5]) rfl ?_
          rw [HE.out]
          exact memErr (H4.out.1) hb (H4.out.2.2.2.2) hf9 (by decide)
        | some d =>
          obtain ⟨e1, e2, hlt⟩ := nx_some hx
          rw [e1, e2]
          have HM2 := HM.out
          rw [hq4, hx] at HM2
          dsimp only at HM2
          rw [← hq4] at HM2 hlt
          clear e1 e2 hx hq4 HM
          by_cases hd : d = 58
          · rw [if_neg (by simpa using hd)] at HM2
            have HM := Lib.hid HM2
            have n1 : ((d.toNat : Int) != 58) = false := by rw [hd]; rfl
            have c1 := H4.out.2.2.2.2.c1
            have f1 := H4.out.2.2.2.2.fr 1
            have hf5 : Frm (fun i => i = b) w4 (w4.setCell ⟨b, 1, none⟩ (.int .i64 ((q4 : Int) + 1))) := Frm.set _ rfl
            have H5 := Lib.hid (And.intro (frm_bm H4.out.1 hf5) (And.intro (box_frm H4.out.2.1 hf5 (fun e => by omega)) (And.intro (H4.out.2.2.1.frm hf5 hne) (H4.out.2.2.2.2.setAt (q4 + 1) ((q4 : Int) + 1) (by omega)))))
            have hz5 : w.heap.size < (w4.setCell ⟨b, 1, none⟩ (.int .i64 ((q4 : Int) + 1))).heap.size := by have := H4.out.2.2.2.1; simpa using this
            have CV5 := Lib.hid (CV.out _ (q4 + 1) H5.out.2.2.2 (by omega))
            clear HM2 hd H4 hf5
            go_wp2_with fail
            generalize w4.setCell ⟨b, 1, none⟩ (.int .i64 ((q4 : Int) + 1)) = w5 at *
            refine CV5.out.mono ?_
            intro e w6 h6
            clear CV5 c1 f1
            cases hx : f (q4 + 1) with
            | err c =>
              rw [hx] at h6
              obtain ⟨v, cs, rfl, hc, hv, q', o', hs6⟩ := h6
              have HE : Hid (R = .err c) := Lib.hid (by rw [HM.out, hx])
              have HV := Lib.hid hv
              obtain ⟨al, ll, cl, am, lm, cm, rfl, _, _⟩ := hv.open
              have H6 : Hid (Frm (fun i => i = b ∨ i = mb) w w6 ∧ w6.heap[w.heap.size]? = some (.cells #[str [], .int .i64 0, .int .i64 0, str [], .slice none 0 0, .slice none 0 0] 53 (0, 0)) ∧ JRb w6 b t q' o' ∧ w.heap.size < w6.heap.size) := Lib.hid ⟨frm_bm H5.out.1 hs6.2, box_frm H5.out.2.1 hs6.2 (fun e => by omega), hs6.1, by have := hs6.2.size; omega⟩
              have hc0 : ((c : Int) == 0) = false := by rw [beq_eq_false_iff_ne]; omega
              have HC := Lib.hid hc
              clear hv hs6 H5 hx HM hc
              go_upto_region 17 with fail
              refine wp_any_world (fun X => Below w6.heap.size w6 X ∧ X.heap[w6.heap.size]? = some (.cells #[.int .i64 v.kind, .int .i64 v.n, str v.s, .slice al ll cl, .slice am lm cm] 28 (0, 0))) ⟨below_alloc _ _, heap_alloc_new _ _⟩ ?_
              rintro w7 ⟨hb7, hx7⟩
              have hbx1 := box_up H6.out.2.1 hb7
              have d0 := box_cell hbx1 0
              have d1 := box_cell hbx1 1
              have d2 := box_cell hbx1 2
              have d3 := box_cell hbx1 3
              have d4 := box_cell hbx1 4
              have d5 := box_cell hbx1 5
              have df := box_fr hbx1
              have p0 := box_cell hx7 0
              have p1 := box_cell hx7 1
              have p2 := box_cell hx7 2
              have p3 := box_cell hx7 3
              have p4 := box_cell hx7 4
              have pf := box_fr hx7
              have H7 := Lib.hid (And.intro (H6.out.1.trans (Frm.of_below (F := fun _ => False) hb7) (fun _ _ e => e.elim)) (And.intro hbx1 (And.intro (H6.out.2.2.1.below hb7) (HV.out.up hb7))))
              clear hbx1 hx7 hb7 H6
              go_wp2_with fail
              refine bodyPost_any_world (fun X => X.heap[w.heap.size]? = some (.cells #[str name, .int .i64 v.kind, .int .i64 v.n, str v.s, .slice al ll cl, .slice am lm cm] 53 (0, 0)) ∧ Frm (fun i => i = w.heap.size) w7 X) (six_set H7.out.2.1 _ _ _ _ _ _) ?_
              clear d0 d1 d2 d3 d4 d5 df p0 p1 p2 p3 p4 pf
              rintro w9 ⟨h9, hf9⟩
              have k0 := box_cell h9 0
              have k1 := box_cell h9 1
              have k2 := box_cell h9 2
              have k3 := box_cell h9 3
              have k4 := box_cell h9 4
              have k5 := box_cell h9 5
              refine bodyPost_ret (v := .tuple #[.agg #[str name, .int .i64 v.kind, .int .i64 v.n, str v.s, .slice al ll cl, .slice am lm cm], .int .i64 (c : Int)]) (by simp [results, Tryz.results64, go_sem, k0, k1, k2, k3, k4, k5]) rfl ?_
              rw [HE.out]
              exact ⟨(name, v), [.int .i64 v.kind, .int .i64 v.n, str v.s, .slice al ll cl, .slice am lm cm], rfl, HC.out, (H7.out.2.2.2.frm hf9 (fun i hi e => by omega)).mono (fun i _ hi => by omega), H7.out.1.trans hf9 (fun i hi e => by omega), q', o', H7.out.2.2.1.frm hf9 (by omega)⟩
            | ok v q7 =>
              rw [hx] at h6
              obtain ⟨cs, rfl, hv, hs6, hq7⟩ := h6
              have HE : Hid (R = .ok (name, v) q7) := Lib.hid (by rw [HM.out, hx])
              have HV := Lib.hid hv
              obtain ⟨al, ll, cl, am, lm, cm, rfl, _, _⟩ := hv.open
              have H6 : Hid (Frm (fun i => i = b ∨ i = mb) w w6 ∧ w6.heap[w.heap.size]? = some (.cells #[str [], .int .i64 0, .int .i64 0, str [], .slice none 0 0, .slice none 0 0] 53 (0, 0)) ∧ JRb w6 b t q7 o ∧ w.heap.size < w6.heap.size) := Lib.hid ⟨frm_bm H5.out.1 hs6.2, box_frm H5.out.2.1 hs6.2 (fun e => by omega), hs6.1, by have := hs6.2.size; omega⟩
              have HC := Lib.hid (And.intro hq7 (H5.out.2.2.1.frm hs6.2 hne))
              clear hv hs6 H5 hx HM hq7
              go_upto_region 17 with fail
              refine wp_any_world (fun X => Below w6.heap.size w6 X ∧ X.heap[w6.heap.size]? = some (.cells #[.int .i64 v.kind, .int .i64 v.n, str v.s, .slice al ll cl, .slice am lm cm] 28 (0, 0))) ⟨below_alloc _ _, heap_alloc_new _ _⟩ ?_
              rintro w7 ⟨hb7, hx7⟩
              have hbx1 := box_up H6.out.2.1 hb7
              have d0 := box_cell hbx1 0
              have d1 := box_cell hbx1 1
              have d2 := box_cell hbx1 2
              have d3 := box_cell hbx1 3
              have d4 := box_cell hbx1 4
              have d5 := box_cell hbx1 5
              have df := box_fr hbx1
              have p0 := box_cell hx7 0
              have p1 := box_cell hx7 1
              have p2 := box_cell hx7 2
              have p3 := box_cell hx7 3
              have p4 := box_cell hx7 4
              have pf := box_fr hx7
              have H7 := Lib.hid (And.intro (H6.out.1.trans (Frm.of_below (F := fun _ => False) hb7) (fun _ _ e => e.elim)) (And.intro hbx1 (And.intro (H6.out.2.2.1.below hb7) (HV.out.up hb7))))
              have HNM := Lib.hid (HC.out.2.up hb7)
              clear hbx1 hx7 hb7 H6
              go_wp2_with fail
              refine bodyPost_any_world (fun X => X.heap[w.heap.size]? = some (.cells #[str name, .int .i64 v.kind, .int .i64 v.n, str v.s, .slice al ll cl, .slice am lm cm] 53 (0, 0)) ∧ Frm (fun i => i = w.heap.size) w7 X) (six_set H7.out.2.1 _ _ _ _ _ _) ?_
              clear d0 d1 d2 d3 d4 d5 df p0 p1 p2 p3 p4 pf
              rintro w9 ⟨h9, hf9⟩
              have k0 := box_cell h9 0
              have k1 := box_cell h9 1
              have k2 := box_cell h9 2
              have k3 := box_cell h9 3
              have k4 := box_cell h9 4
              have k5 := box_cell h9 5
              refine bodyPost_ret (v := .tuple #[.agg #[str name, .int .i64 v.kind, .int .i64 v.n, str v.s, .slice al ll cl, .slice am lm cm], .int .i64 0]) (by simp [results, Tryz.results64, go_sem, k0, k1, k2, k3, k4, k5]) rfl ?_
              rw [HE.out]
              exact ⟨[.int .i64 v.kind, .int .i64 v.n, str v.s, .slice al ll cl, .slice am lm cm], rfl, (H7.out.2.2.2.frm hf9 (fun i hi e => by omega)).mono (fun i _ hi => by omega), H7.out.1.trans hf9 (fun i hi e => by omega), H7.out.2.2.1.frm hf9 (by omega), HC.out.1, HNM.out.frm hf9 (by omega)⟩
          · rw [if_pos (by simpa using hd)] at HM2
            have HE := Lib.hid HM2
            have n1 : ((d.toNat : Int) != 58) = true := by
              rw [bne_iff_ne]; intro h; exact hd (UInt8.toNat_inj.1 (by have : (58 : UInt8).toNat = 58 := rfl; omega))
            have hbx1 := H4.out.2.1
            have d0 := box_cell hbx1 0
            have d1 := box_cell hbx1 1
            have d2 := box_cell hbx1 2
            have d3 := box_cell hbx1 3
            have d4 := box_cell hbx1 4
            have d5 := box_cell hbx1 5
            have df := box_fr hbx1
            clear hbx1 HM2 hd
            go_wp2_with fail
            refine bodyPost_any_world (fun X => X.heap[w.heap.size]? = some (.cells #[str [], .int .i64 0, .int .i64 0, str [], .slice none 0 0, .slice none 0 0] 53 (0, 0)) ∧ Frm (fun i => i = w.heap.size) w4 X) (six_set (H4.out.2.1) _ _ _ _ _ _) ?_
            clear d0 d1 d2 d3 d4 d5 df
            rintro w9 ⟨h9, hf9⟩
            have k0 := box_cell h9 0
            have k1 := box_cell h9 1
            have k2 := box_cell h9 2
            have k3 := box_cell h9 3
            have k4 := box_cell h9 4
            have k5 := box_cell h9 5
            refine bodyPost_ret (v := .tuple #[.agg #[str [], .int .i64 0, .int .i64 0, str [], .slice none 0 0, .slice none 0 0], .int .i64 4]) (by simp [results, Tryz.results64, go_sem, k0, k1, k2, k3, k4, k5]) rfl ?_
            rw [HE.out]
            exact memErr (H4.out.1) hb (H4.out.2.2.2.2) hf9 (by decide)
end Go.Proofs.YtidlhajibjnkeaaGreatDoor

/-
  DERIVED: THE SHELF's CONTRACTS AT THIS DUMP, IN PLAIN WORDS (tools/lay-plain.mjs out of 'YtidlhajibjnkeaaGreatDoorSortL.lean', which tools/lay-shelf.mjs wrote): THE SAME DECLARATIONS UNDER THE SAME NAMES: 'import', 'namespace', 'open', 'def', 'theorem' AND NOTHING ELSE: no command of the shelf's: FOR A HAND-IN. Each laying: the table of numbers ('.._ren') and one theorem, a field a fact of the dump's own or the kernel's comparison; each contract: ONE APPLICATION.
-/
namespace Go.Proofs
open Go.Shelf
def Tryz.sortJ_ren : Go.Shelf.Ren := ⟨fun | 6 => 65 | 15 => 82 | 14 => 81 | 28 => 99 | 29 => 100 | 20 => 91 | 21 => 92 | 22 => 93 | 23 => 94 | 24 => 95 | 25 => 96 | 26 => 97 | 27 => 98 | 46 => 111 | 47 => 112 | 48 => 113 | 49 => 114 | 50 => 115 | 57 => 124 | n => n, fun | 22 => 26 | 24 => 53 | 25 => 109 | 3 => 3 | 39 => 117 | 0 => 0 | 53 => 136 | 55 => 124 | 4 => 4 | 46 => 129 | 45 => 128 | 50 => 133 | 5 => 5 | 9 => 9 | 66 => 149 | 70 => 153 | 76 => 163 | 77 => 140 | n => n, fun | n => n⟩
theorem Tryz.sortJ : Go.Proofs.SlLaysF0.n6 Tryz.prog Tryz.sortJ_ren := {
  mixed := by kernel_rfl
  f6 := ⟨Tryz.f65.name, by decide, Tryz.func65.trans (congrArg some (by kernel_rfl))⟩
  f14 := ⟨Tryz.f81.name, by decide, Tryz.func81.trans (congrArg some (by kernel_rfl))⟩
  f15 := Tryz.func82.trans (congrArg some (by kernel_rfl))
  f20 := ⟨Tryz.f91.name, by decide, Tryz.func91.trans (congrArg some (by kernel_rfl))⟩
  f21 := ⟨Tryz.f92.name, by decide, Tryz.func92.trans (congrArg some (by kernel_rfl))⟩
  f22 := ⟨Tryz.f93.name, by decide, Tryz.func93.trans (congrArg some (by kernel_rfl))⟩
  f23 := ⟨Tryz.f94.name, by decide, Tryz.func94.trans (congrArg some (by kernel_rfl))⟩
  f24 := ⟨Tryz.f95.name, by decide, Tryz.func95.trans (congrArg some (by kernel_rfl))⟩
  f25 := ⟨Tryz.f96.name, by decide, Tryz.func96.trans (congrArg some (by kernel_rfl))⟩
  f26 := ⟨Tryz.f97.name, by decide, Tryz.func97.trans (congrArg some (by kernel_rfl))⟩
  f27 := ⟨Tryz.f98.name, by decide, Tryz.func98.trans (congrArg some (by kernel_rfl))⟩
  f28 := Tryz.func99.trans (congrArg some (by kernel_rfl))
  f29 := Tryz.func100.trans (congrArg some (by kernel_rfl))
  f46 := ⟨Tryz.f111.name, by decide, Tryz.func111.trans (congrArg some (by kernel_rfl))⟩
  f47 := Tryz.func112.trans (congrArg some (by kernel_rfl))
  f48 := Tryz.func113.trans (congrArg some (by kernel_rfl))
  f49 := ⟨Tryz.f114.name, by decide, Tryz.func114.trans (congrArg some (by kernel_rfl))⟩
  f50 := ⟨Tryz.f115.name, by decide, Tryz.func115.trans (congrArg some (by kernel_rfl))⟩
  f57 := ⟨Tryz.f124.name, by decide, Tryz.func124.trans (congrArg some (by kernel_rfl))⟩
  t0 := Tryz.underlying0
  a0 := Tryz.isAgg0
  z0 := Tryz.sizeOf0
  v0 := Tryz.zeroValue0
  t3 := Tryz.underlying3
  a3 := Tryz.isAgg3
  z3 := Tryz.sizeOf3
  v3 := Tryz.zeroValue3
  t4 := Tryz.underlying4
  a4 := Tryz.isAgg4
  z4 := Tryz.sizeOf4
  v4 := Tryz.zeroValue4
  t5 := Tryz.underlying5
  a5 := Tryz.isAgg5
  z5 := Tryz.sizeOf5
  v5 := Tryz.zeroValue5
  t9 := Tryz.underlying9
  a9 := Tryz.isAgg9
  z9 := Tryz.sizeOf9
  v9 := Tryz.zeroValue9
  t22 := Tryz.underlying26
  a22 := Tryz.isAgg26
  z22 := Tryz.sizeOf26
  v22 := Tryz.zeroValue26
  t25 := Tryz.underlying109
  a25 := Tryz.isAgg109
  z25 := Tryz.sizeOf109
  v25 := Tryz.zeroValue109
  t39 := Tryz.underlying117
  a39 := Tryz.isAgg117
  z39 := Tryz.sizeOf117
  v39 := Tryz.zeroValue117
  t45 := Tryz.underlying128
  a45 := Tryz.isAgg128
  z45 := Tryz.sizeOf128
  v45 := Tryz.zeroValue128
  t46 := Tryz.underlying129
  a46 := Tryz.isAgg129
  z46 := Tryz.sizeOf129
  v46 := Tryz.zeroValue129
  t50 := Tryz.underlying133
  a50 := Tryz.isAgg133
  z50 := Tryz.sizeOf133
  v50 := Tryz.zeroValue133
  t53 := Tryz.underlying136
  a53 := Tryz.isAgg136
  z53 := Tryz.sizeOf136
  v53 := Tryz.zeroValue136
  t55 := Tryz.underlying124
  a55 := Tryz.isAgg124
  z55 := Tryz.sizeOf124
  v55 := Tryz.zeroValue124
  t66 := Tryz.underlying149
  a66 := Tryz.isAgg149
  z66 := Tryz.sizeOf149
  v66 := Tryz.zeroValue149
  t70 := Tryz.underlying153
  a70 := Tryz.isAgg153
  z70 := Tryz.sizeOf153
  v70 := Tryz.zeroValue153
  t76 := Tryz.underlying163
  a76 := Tryz.isAgg163
  z76 := Tryz.sizeOf163
  v76 := Tryz.zeroValue163
  t77 := Tryz.underlying140
  a77 := Tryz.isAgg140
  z77 := Tryz.sizeOf140
  v77 := Tryz.zeroValue140 }
end Go.Proofs

/- The contract of strings.Compare, off the shelf. -/
namespace Go.Proofs
open Go.Shelf
def Tryz.lays106_ren : Go.Shelf.Ren := ⟨fun | 106 => 67 | 213 => 83 | 265 => 101 | n => n, fun | 9 => 9 | 3 => 3 | n => n, fun | n => n⟩
theorem Tryz.lays106 : Go.Proofs.Lays.n106 Tryz.prog Tryz.lays106_ren := {
  mixed := by kernel_rfl
  f106 := Tryz.func67.trans (congrArg some (by kernel_rfl))
  f213 := Tryz.func83.trans (congrArg some (by kernel_rfl))
  f265 := Tryz.func101.trans (congrArg some (by kernel_rfl))
  t3 := Tryz.underlying3
  a3 := Tryz.isAgg3
  z3 := Tryz.sizeOf3
  v3 := Tryz.zeroValue3
  t9 := Tryz.underlying9
  a9 := Tryz.isAgg9
  z9 := Tryz.sizeOf9
  v9 := Tryz.zeroValue9 }
open Go.RowKit in
/-- strings.Compare: "Compare returns an integer comparing two strings lexicographically. The result will be 0 if a == b, -1 if a < b, and +1 if a > b.": IT RETURNS 'Lib.compareBytes a b'; the world is as it was. (LAID: no walk: one application.) -/
theorem Tryz.strings_Compare (a b : ByteArray) (w : World) :
    Calls Tryz.prog 67 #[.string a, .string b] w fun e w' => e = .returned (.int .i64 (Lib.compareBytes a.data.toList b.data.toList)) ∧ w' = w := Any.strings_Compare Tryz.lays106 a b w
end Go.Proofs

/- JSON: members sorted by their names: slices.SortFunc, off the shelf. -/
namespace Go.Proofs.YtidlhajibjnkeaaGreatDoor
open Go.RowKit

/-- A member as it lies. -/
structure MemR where
  m : MemT
  c1 : Value
  c2 : Value
  c3 : Value
  c4 : Value
  c5 : Value
  h : ∀ v ∈ [c1, c2, c3, c4, c5], v.oneCell' = true
instance inhMemR : Inhabited MemR := ⟨⟨default, .int .i64 0, .int .i64 0, .int .i64 0, .int .i64 0, .int .i64 0, by simp [Value.oneCell']⟩⟩
def encR (x : MemR) : List Value := [str x.m.1, x.c1, x.c2, x.c3, x.c4, x.c5]
def cmpR (x y : MemR) : Int := Lib.compareBytes x.m.1 y.m.1
theorem cmp_less : ∀ a b : List UInt8, Lib.compareBytes a b < 0 ↔ Op.bytesLess a b = true
  | [], [] => by simp [Lib.compareBytes, Op.bytesLess]
  | [], _ :: _ => by simp [Lib.compareBytes, Op.bytesLess]
  | _ :: _, [] => by simp [Lib.compareBytes, Op.bytesLess]
  | a :: s, b :: t => by
    have ih := cmp_less s t
    unfold Lib.compareBytes Op.bytesLess
    by_cases h1 : a < b
    · simp [h1]
    · by_cases h2 : b < a
      · simp only [h1, h2, if_false, if_true]
        have : a ≠ b := fun e => by subst e; exact h1 h2
        simp [this]
      · have e : a = b := UInt8.toNat_inj.1 (by rw [UInt8.lt_iff_toNat_lt] at h1 h2; omega)
        subst e
        simp only [h1, if_false]
        rw [ih]
        simp
theorem ltR (x y : MemR) : ltOf cmpR x y = Op.bytesLess x.m.1 y.m.1 := by
  unfold ltOf cmpR
  have := cmp_less x.m.1 y.m.1
  cases h : Op.bytesLess x.m.1 y.m.1 with
  | true => exact decide_eq_true (this.2 h)
  | false => exact decide_eq_false (fun h2 => by rw [this.1 h2] at h; cases h)
theorem swoR : Go.Sort.SWO (ltOf cmpR) where
  irrefl x := by rw [ltR]; exact bl_irr _
  trans x y z h1 h2 := by rw [ltR] at *; exact bl_tr _ _ _ h1 h2
  ntrans x y z h1 h2 := by
    rw [ltR] at *
    cases h : Op.bytesLess x.m.1 z.m.1 with
    | false => rfl
    | true =>
      cases h3 : Op.bytesLess y.m.1 x.m.1 with
      | true =>
        have := bl_tr _ _ _ h3 h
        rw [this] at h2; cases h2
      | false =>
        have e := bl_tot _ _ h1 h3
        rw [e, h2] at h; cases h
theorem cloR_any (x y : MemR) (W : World) : Calls Tryz.prog 66 #[.agg (encR x).toArray, .agg (encR y).toArray] W fun e w' => e = .returned (.int .i64 (cmpR x y)) ∧ ∃ q os', w' = Go.Sort.grow (W.drewN q) os' := by
  have CC : Hid (∀ W, Calls Tryz.prog 67 #[str x.m.1, str y.m.1] W fun e w' => e = .returned (.int .i64 (cmpR x y)) ∧ w' = W) := Lib.hid (fun W => Tryz.strings_Compare _ _ W)
  obtain ⟨c, hc⟩ : ∃ c, c = cmpR x y := ⟨_, rfl⟩
  rw [← hc] at CC ⊢
  obtain ⟨⟨k, v⟩, c1, c2, c3, c4, c5, h⟩ := x
  obtain ⟨⟨k', v'⟩, d1, d2, d3, d4, d5, h'⟩ := y
  dsimp only [encR] at CC ⊢
  clear hc
  simp only [List.mem_cons, List.not_mem_nil, or_false, forall_eq_or_imp, forall_eq] at h h'
  obtain ⟨h1, h2, h3, h4, h5⟩ := h
  obtain ⟨g1, g2, g3, g4, g5⟩ := h'
  go_enter Tryz.func66, Tryz.ntmps66
  go_wp2_with fail
  refine (CC.out _).mono ?_
  rintro e w' ⟨rfl, hw⟩
  have HW := Lib.hid hw
  clear hw CC
  go_wp2_with fail
  go_ret
  exact ⟨rfl, 0, _, by rw [HW.out, Go.Sort.alloc_eq_grow, Go.Sort.alloc_eq_grow, Go.Sort.grow_grow]; rfl⟩
theorem arrR (l : List MemR) (i : Nat) (h : i < l.length) : l.toArray[i]! = l[i] := by
  rw [getElem!_pos l.toArray i (by simpa using h)]; simp
theorem encR_len (l : List MemR) : ∀ r ∈ l.map encR, r.length = 6 := by
  intro r hr
  obtain ⟨x, _, rfl⟩ := List.mem_map.1 hr
  rfl
theorem holdsR {w : World} {n0 B cap : Nat} {T : TypeId} {l : List MemR} (hr : w.ownsRow n0 T 6 (.slice (some ⟨B, 0, none⟩) l.length cap) l.length (l.map encR).flatten) :
    Go.Sort.HoldsK encR 6 w B 0 l.toArray ∧ B < w.heap.size ∧ n0 ≤ B ∧ l.length ≤ 9223372036854775807 ∧ l.length ≤ cap ∧ cap ≤ 9223372036854775807 := by
  rcases hr.2 with ⟨he, _⟩ | ⟨g, cap', cur, he, hg0, hg, h1, h2, h3, h4⟩
  · cases he
  · simp only [Value.slice.injEq, Option.some.injEq, Addr.mk.injEq] at he
    obtain ⟨⟨rfl, _⟩, _, rfl⟩ := he
    have hlt : B < w.heap.size := by
      by_cases q : B < w.heap.size
      · exact q
      · rw [Array.getElem?_eq_none (by omega)] at hg; cases hg
    simp only [maxLen] at h2
    refine ⟨fun j hj => ?_, hlt, hg0, by omega, h1, by omega⟩
    rw [Go.Sort.size_flatK] at hj
    have hs : l.toArray.size = l.length := by simp
    rw [hs] at hj
    have hi : j / 6 < l.length := by omega
    have hf := flat_at 6 (l.map encR) (encR_len l) (j / 6) (by simpa using hi) (j % 6) (by omega)
    have ej : j / 6 * 6 + j % 6 = j := by omega
    rw [ej] at hf
    have e2 := congrArg (fun z => z[j]?) h4
    simp only [List.getElem?_take] at e2
    rw [if_pos hj, hf] at e2
    constructor
    · rw [Go.Sort.get_flatK _ _ _ _ (by rw [hs]; exact hj)]
      simp only [World.cell?, hg, Nat.zero_add, id]
      rw [arrR l _ hi]
      have hc : (encR l[j / 6])[j % 6]? = some ((encR l[j / 6])[j % 6]!) := by
        have : j % 6 < (encR l[j / 6]).length := by simp [encR]; omega
        rw [getElem!_pos (encR l[j / 6]) (j % 6) this, List.getElem?_eq_getElem this]
      simp only [List.getElem_map] at e2
      rw [hc] at e2
      simpa using e2
    · simp [World.frozen?, hg]
theorem frm_sortR {w : World} {B n : Nat} {d : Array MemR} {os : Array Obj} : Frm (fun i => i = B) w (sortWorldK encR 6 w B 0 n d os) := by
  unfold sortWorldK Go.Sort.putRowK Go.Sort.putRow Go.Sort.mapBlock Go.Sort.grow Go.Sort.ahead
  refine ⟨rfl, rfl, rfl, ?_, fun k hk hn => ?_⟩
  · simp
  · simp only [Array.getElem?_append, Array.size_modify]
    rw [if_pos (by omega), Array.getElem?_modify, if_neg (by omega)]
set_option maxHeartbeats 1000000 in
theorem jsort_any (n0 B cap : Nat) (l : List MemR) (w : World) (hr : w.ownsRow n0 53 6 (.slice (some ⟨B, 0, none⟩) l.length cap) l.length (l.map encR).flatten) (h12 : l.length ≤ 1000000) :
    Calls Tryz.prog 65 #[.slice (some ⟨B, 0, none⟩) l.length cap, .func (.func 66) #[] #[]] w fun e w' => e = .returned (.tuple #[]) ∧ ∃ d : List MemR, d.Perm l ∧ d.Pairwise (fun a b => Op.bytesLess b.m.1 a.m.1 = false) ∧ RdFB (fun i => i = B) 6 w' (.slice (some ⟨B, 0, none⟩) l.length cap) (d.map encR) ∧ Frm (fun i => i = B) w w' := by
  obtain ⟨hH, hlt, hn, hmax, hcap, hcapm⟩ := holdsR hr
  have hsz : l.toArray.size = l.length := by simp
  have eg : ∀ args w, (callFunc 66 args).run Tryz.prog w = .ok (.enter 66 args) w := enters_of Tryz.func66 (by kernel_rfl) rfl
  have hcon := AnyQ.slices_SortFunc Tryz.sortJ 6 Tryz.isAgg53 Tryz.sizeOf53 encR (fun _ => rfl) (fun x v hv => by
    have := x.h
    simp only [encR, List.mem_cons, List.not_mem_nil, or_false] at hv
    rcases hv with rfl | hv
    · rfl
    · exact this v (by simpa using hv)) cmpR swoR 66 #[] B 0 cap l.toArray w eg (fun _ _ _ _ x y => cloR_any x y _) hH hlt (by rw [hsz]; omega)
  rw [hsz] at hcon
  refine Calls.mono (f := 65) hcon ?_
  rintro e w' ⟨rfl, d', n, os, hp, hs, rfl⟩
  refine ⟨rfl, d'.toList, ?_, ?_, ?_, frm_sortR⟩
  · have h3 := hp.2.2
    have h1 := hp.1
    rw [Array.extract_eq_self_of_le (by omega), Array.extract_eq_self_of_le (by omega)] at h3
    simpa using h3
  · rw [List.pairwise_iff_getElem]
    intro i j hi hj hij
    have h1 := hp.1
    rw [hsz] at h1
    have hq := hs i j (Nat.zero_le _) hij (by simpa [h1] using hj)
    rw [ltR] at hq
    rw [getElem!_pos d' i (by simpa using hi), getElem!_pos d' j (by simpa using hj)] at hq
    simpa using hq
  · have h1 := hp.1
    have hH' := holdsK_sortWorldK_c encR 6 w B 0 l.toArray d' n os hH hlt h1
    rw [hsz] at h1
    have hl : d'.toList.length = l.length := by simp [h1]
    have hl2 : (d'.toList.map encR).length = l.length := by rw [List.length_map, hl]
    refine ⟨_, cap, by rw [hl2], by rw [hl2]; exact hmax, by rw [hl2]; exact hcap, hcapm, fun _ => ⟨B, 0, rfl, rfl, fun i hi j u hu => ?_⟩⟩
    have hi' : i < d'.size := by simpa using hi
    have hj : j < 6 := by
      have := (List.getElem?_eq_some_iff.1 hu).1
      simpa [encR] using this
    have := (Go.Sort.HoldsK.cell hH' hi' hj).1
    rw [this, getElem!_pos d' i hi']
    simp only [List.getElem_map, Array.getElem_toList] at hu
    rw [← hu]
    have h2 : j < (encR d'[i]).length := by simpa [encR] using hj
    rw [getElem!_pos (encR d'[i]) j h2, List.getElem?_eq_getElem h2]
/-- Members as they lie, in whatever order. -/
theorem rdM_all {W : World} {F : Nat → Prop} : ∀ {d : List MemR}, (∀ x ∈ d, RdJ W F x.m.2 [x.c1, x.c2, x.c3, x.c4, x.c5]) → RdM W F (d.map (fun x => x.m)) (d.map encR)
  | [], _ => by unfold RdM; trivial
  | x :: t, h => by
    have h1 := h x (by simp)
    have h2 := rdM_all (d := t) (fun y hy => h y (by simp [hy]))
    obtain ⟨⟨k, v⟩, c1, c2, c3, c4, c5, hc⟩ := x
    simp only [List.map_cons]
    unfold RdM
    exact ⟨⟨_, rfl, h1⟩, h2⟩
theorem rdM_some {W : World} {F : Nat → Prop} : ∀ {l : List MemT} {rs : List (List Value)}, RdM W F l rs → ∃ d : List MemR, d.map (fun x => x.m) = l ∧ d.map encR = rs ∧ ∀ x ∈ d, RdJ W F x.m.2 [x.c1, x.c2, x.c3, x.c4, x.c5]
  | [], [], _ => ⟨[], rfl, rfl, by simp⟩
  | (k, v) :: t, r :: rs, h => by
    unfold RdM at h
    obtain ⟨⟨cs, rfl, hv⟩, h2⟩ := h
    obtain ⟨d, h3, h4, h5⟩ := rdM_some h2
    obtain ⟨al, ll, cl, am, lm, cm, rfl, _, _⟩ := hv.open
    refine ⟨⟨(k, v), .int .i64 v.kind, .int .i64 v.n, str v.s, .slice al ll cl, .slice am lm cm, by simp [Value.oneCell']⟩ :: d, by simp [h3], by simp [h4, encR], fun x hx => ?_⟩
    rcases List.mem_cons.1 hx with rfl | hx
    · exact hv
    · exact h5 x hx
  | [], _ :: _, h => by unfold RdM at h; exact h.elim
  | _ :: _, [], h => by unfold RdM at h; exact h.elim
end Go.Proofs.YtidlhajibjnkeaaGreatDoor
