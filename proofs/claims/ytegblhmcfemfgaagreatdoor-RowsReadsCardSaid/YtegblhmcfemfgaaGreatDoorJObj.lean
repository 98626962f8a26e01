import Derived.Test.YtegblhmcfemfgaaGreatDoorJVal
import Derived.Maps.Own
import Derived.Maps.OwnOps
import Derived.Maps.Views
import Derived.Test.YtegblhmcfemfgaaGreatDoorWTake
import Derived.Ground.SlsfProg
import Derived.Shelf.SlSortCmp.WholeK
import Derived.Test.YtegblhmcfemfgaaGreatDoorProg
import Derived.Shelf.Small.Strs
import Derived.Test.YtegblhmcfemfgaaGreatDoorBl
import Derived.Shelf.SlSortCmp.NoneTotal
namespace Go.Proofs.YtegblhmcfemfgaaGreatDoor
open Go.RowKit Go.Maps
theorem lawS : Keyed Tryz.prog 9 := string_keyed Tryz.underlying9
def NamM (W : World) (mb : Nat) (ns : List (List UInt8)) : Prop :=
 ∃ (n : Nat) (D : DataW Unit), W.ownsMap Tryz.prog 9 (plainElem Tryz.prog 3) mb n D ∧ n ≤ ns.length ∧ IsMap D ∧ ∀ k : List UInt8, D.atKey (.string k) (.lit (.int .i64 0)) = .lit (.int .i64 (if k ∈ ns then 1 else 0))
theorem NamM.made (w : World) : NamM (w.alloc (.map #[] 0)) w.heap.size [] := ⟨0, .map [], World.ownsMap_made _ _ _ _, Nat.le_refl _, isMap_empty, fun k => by simp [DataW.atKey]⟩
theorem NamM.frm {W W' : World} {mb : Nat} {ns : List (List UInt8)} {G : Nat → Prop} (h : NamM W mb ns) (hf : Frm G W W') (hn : ¬ G mb) : NamM W' mb ns := by
 obtain ⟨n, D, ⟨es, clock, hb, rest⟩, h2⟩ := h
 exact ⟨n, D, ⟨es, clock, box_frm hb hf hn, rest⟩, h2⟩
theorem NamM.up {W W' : World} {mb : Nat} {ns : List (List UInt8)} (h : NamM W mb ns) (hb : Below W.heap.size W W') : NamM W' mb ns := h.frm (Frm.of_below (F := fun _ => False) hb) (fun h => h)
theorem NamM.lt {W : World} {mb : Nat} {ns : List (List UInt8)} (h : NamM W mb ns) : mb < W.heap.size := by
 obtain ⟨n, D, h1, _⟩ := h
 exact h1.lt
theorem NamM.put {n : Nat} {ns : List (List UInt8)} {D : DataW Unit} {name : List UInt8} {mb : Nat} {W : World} (h : W.ownsMap Tryz.prog 9 (plainElem Tryz.prog 3) mb (n + 1) (D.put (.string name) (.lit (.int .i64 1)))) (hn : n ≤ ns.length) (hm : IsMap D)
 (hat : ∀ k : List UInt8, D.atKey (.string k) (.lit (.int .i64 0)) = .lit (.int .i64 (if k ∈ ns then 1 else 0))) : NamM W mb (ns ++ [name]) := by
 refine ⟨n + 1, _, h, by simp; omega, hm.put _ _, fun k => ?_⟩
 by_cases e : k = name
 · subst e
   rw [atKey_put_same hm (by simp [WideAt.IsKeyLit])]
   simp
 rw [atKey_put_other (fun h => e (by injection h)), hat]
 simp [e]
theorem infoM : (Tryz.prog.info? 74).map (fun i => (i.zero, i.size, i.bytes)) = some (some (.agg #[str [], .int .i64 0, .int .i64 0, str [], .slice none 0 0, .slice none 0 0]), 6, 96) := by kernel_rfl
def MemJ (t : List UInt8) (w : World) (b mb o : Nat) (ns : List (List UInt8)) (r : JR MemT) (e : Ending) (w' : World) : Prop :=
 match r with
 | .err c => ∃ (m : MemT) (cs : List Value), e = .returned (.tuple #[.agg (str m.1 :: cs).toArray, .int .i64 (c : Int)]) ∧ c ≠ 0 ∧ RdJ w' (fun i => w.heap.size ≤ i) m.2 cs ∧ Frm (fun i => i = b ∨ i = mb) w w' ∧ ∃ q o', JRb w' b t q o'
 | .ok m q => ∃ cs, e = .returned (.tuple #[.agg (str m.1 :: cs).toArray, .int .i64 0]) ∧ RdJ w' (fun i => w.heap.size ≤ i) m.2 cs ∧ Frm (fun i => i = b ∨ i = mb) w w' ∧ JRb w' b t q o ∧ q ≤ t.length ∧ NamM w' mb (ns ++ [m.1])
theorem zeroJ (W : World) (F : Nat → Prop) : RdJ W F (.mk 0 0 [] [] []) [.int .i64 0, .int .i64 0, str [], .slice none 0 0, .slice none 0 0] := by
 unfold RdJ
 exact ⟨_, _, rfl, ⟨[], RdFB.nil _ _ _, by unfold RdL; trivial⟩, [], RdFB.nil _ _ _, by unfold RdM; trivial⟩
end Go.Proofs.YtegblhmcfemfgaaGreatDoor
namespace Go.Proofs.YtegblhmcfemfgaaGreatDoor
open Go.RowKit Go.Maps
theorem memErr {t : List UInt8} {w W w9 : World} {b mb o q o' c : Nat} {ns : List (List UInt8)} (hf : Frm (fun i => i = b ∨ i = mb) w W) (hb : b < w.heap.size) (hr : JRb W b t q o') (hf9 : Frm (fun i => i = w.heap.size) W w9) (hc : c ≠ 0) :
 MemJ t w b mb o ns (.err c) (.returned (.tuple #[.agg #[str [], .int .i64 0, .int .i64 0, str [], .slice none 0 0, .slice none 0 0], .int .i64 (c : Int)])) w9 :=
 ⟨([], .mk 0 0 [] [] []), [.int .i64 0, .int .i64 0, str [], .slice none 0 0, .slice none 0 0], rfl, hc, zeroJ _ _, hf.trans hf9 (fun i hi e => by omega), q, o', hr.frm hf9 (by omega)⟩
theorem zeroI (W : World) : (zeroValue 3).run Tryz.prog W = .ok (.int .i64 0) W := by kernel_rfl
theorem frm_bm {w W W' : World} {b mb : Nat} (h : Frm (fun i => i = b ∨ i = mb) w W) (k : Frm (fun i => i = b) W W') : Frm (fun i => i = b ∨ i = mb) w W' := h.trans k (fun _ _ e => .inl e)
set_option maxRecDepth 100000 in
set_option maxHeartbeats 8000000 in
theorem member_any (t : List UInt8) (b mb p o : Nat) (ns : List (List UInt8)) (w : World) (f : Nat → JR JV) (CV : ∀ W q, JRb W b t q o → q ≤ t.length → Calls Tryz.prog 73 #[.pointer (some ⟨b, 0, none⟩)] W (ValJ t W b o (f q)))
 (h : JRb w b t p o) (hm : NamM w mb ns) (hne : mb ≠ b) (hns : ns.length ≤ 1000000) (hp : p ≤ t.length) (hl : t.length ≤ 1000000) :
 Calls Tryz.prog 124 #[.pointer (some ⟨b, 0, none⟩), .map (some mb)] w (MemJ t w b mb o ns (memP f t ns p)) := by
 have hb := h.lt
 have hmlt := hm.lt
 have CV := Lib.hid CV
 obtain ⟨R, hR⟩ : ∃ R, R = memP f t ns p := ⟨_, rfl⟩
 rw [← hR]
 have HR := Lib.hid hR
 clear hR
 obtain ⟨Wa, hWa⟩ : ∃ Wa, Wa = w.alloc (.cells #[.string ⟨#[]⟩, .int .i64 0, .int .i64 0, .string ⟨#[]⟩, .slice none 0 0, .slice none 0 0] 74) := ⟨_, rfl⟩
 have hba : Below w.heap.size w Wa := by rw [hWa]; exact below_alloc _ _
 have hbx : Wa.heap[w.heap.size]? = some (.cells #[str [], .int .i64 0, .int .i64 0, str [], .slice none 0 0, .slice none 0 0] 74 (0, 0)) := by rw [hWa]; exact heap_alloc_new w _
 have CN := Lib.hid (next_any t b p o Wa (h.below hba) hp (by omega))
 have hmz : Wa.heap.size = w.heap.size + 1 := by rw [hWa]; simp
 have HA : Hid (Frm (fun i => i = b ∨ i = mb) w Wa ∧ Wa.heap[w.heap.size]? = some (.cells #[str [], .int .i64 0, .int .i64 0, str [], .slice none 0 0, .slice none 0 0] 74 (0, 0)) ∧ NamM Wa mb ns ∧ Wa.heap.size = w.heap.size + 1) := Lib.hid ⟨Frm.of_below hba, hbx, hm.up hba, hmz⟩
 have hs := skp_le t hp
 clear hba hbx hmz h hm
 cases hx : t[skp t p]? with
 | none =>
  obtain ⟨e1, e2⟩ := nx_none hx
  rw [e1, e2] at CN
  have HE : Hid (R = .err 2) := Lib.hid (by rw [HR.out]; unfold memP; rw [if_pos (by have := List.getElem?_eq_none_iff.1 hx; omega)])
  clear hx e1 e2 HR
  go_enter Tryz.func124, Tryz.ntmps124
  go_wp2_with fail
  rw [← hWa]
  refine CN.out.mono ?_
  rintro e w1 ⟨rfl, h1⟩
  have hbx1 := box_frm HA.out.2.1 h1.2 (fun e => by omega)
  have d0 := box_cell hbx1 0
  have d1 := box_cell hbx1 1
  have d2 := box_cell hbx1 2
  have d3 := box_cell hbx1 3
  have d4 := box_cell hbx1 4
  have d5 := box_cell hbx1 5
  have df := box_fr hbx1
  have H1 := Lib.hid (And.intro h1 hbx1)
  clear h1 hbx1 CN hWa
  go_wp2_with fail
  refine bodyPost_any_world (fun X => X.heap[w.heap.size]? = some (.cells #[str [], .int .i64 0, .int .i64 0, str [], .slice none 0 0, .slice none 0 0] 74 (0, 0)) ∧ Frm (fun i => i = w.heap.size) w1 X) (six_set (H1.out.2) _ _ _ _ _ _) ?_
  clear d0 d1 d2 d3 d4 d5 df
  rintro w9 ⟨h9, hf9⟩
  have k0 := box_cell h9 0
  have k1 := box_cell h9 1
  have k2 := box_cell h9 2
  have k3 := box_cell h9 3
  have k4 := box_cell h9 4
  have k5 := box_cell h9 5
  refine bodyPost_ret (v := .tuple #[.agg #[str [], .int .i64 0, .int .i64 0, str [], .slice none 0 0, .slice none 0 0], .int .i64 2]) (by simp [results, Tryz.results124, go_sem, k0, k1, k2, k3, k4, k5]) rfl ?_
  rw [HE.out]
  exact memErr (frm_bm HA.out.1 H1.out.1.2) hb (H1.out.1.1) hf9 (by decide)
 | some c0 =>
  obtain ⟨e1, e2, hlt⟩ := nx_some hx
  rw [e1, e2] at CN
  have HM : Hid (R = match txtP t (skp t p) with
   | .err e => .err e
   | .ok name q => if name ∈ ns then .err 4 else
     match t[skp t q]? with
     | none => .err 2
     | some d => if d ≠ 58 then .err 4 else
       match f (skp t q + 1) with
       | .err e => .err e
       | .ok v r => .ok (name, v) r) := Lib.hid (by rw [HR.out, memP, if_neg (by omega)]; rfl)
  obtain ⟨q0, hq0⟩ : ∃ q0, q0 = skp t p := ⟨_, rfl⟩
  rw [← hq0] at CN HM
  clear hx e1 e2 HR hlt hs hq0
  go_enter Tryz.func124, Tryz.ntmps124
  go_wp2_with fail
  rw [← hWa]
  clear hWa
  refine CN.out.mono ?_
  rintro e w1 ⟨rfl, h1⟩
  have H1 : Hid (Frm (fun i => i = b ∨ i = mb) w w1 ∧ w1.heap[w.heap.size]? = some (.cells #[str [], .int .i64 0, .int .i64 0, str [], .slice none 0 0, .slice none 0 0] 74 (0, 0)) ∧ NamM w1 mb ns ∧ w.heap.size < w1.heap.size) := Lib.hid ⟨frm_bm HA.out.1 h1.2, box_frm HA.out.2.1 h1.2 (fun e => by omega), HA.out.2.2.1.frm h1.2 hne, by have := HA.out.2.2.2; have := h1.2.size; omega⟩
  have CT := Lib.hid (jtext_any t b q0 o w1 h1.1 (by omega))
  clear h1 CN HA
  go_wp2_with fail
  refine CT.out.mono ?_
  intro e w2 h2
  cases hx : txtP t q0 with
  | err c =>
   rw [hx] at h2
   obtain ⟨rfl, hc, q', o', hs2⟩ := h2
   have HE : Hid (R = .err c) := Lib.hid (by rw [HM.out, hx])
   have hbx1 := box_frm H1.out.2.1 hs2.2 (fun e => by omega)
   have d0 := box_cell hbx1 0
   have d1 := box_cell hbx1 1
   have d2 := box_cell hbx1 2
   have d3 := box_cell hbx1 3
   have d4 := box_cell hbx1 4
   have d5 := box_cell hbx1 5
   have df := box_fr hbx1
   have hc0 : ((c : Int) != 0) = true := by rw [bne_iff_ne]; omega
   have H2 := Lib.hid (And.intro hs2 (And.intro hbx1 hc))
   clear hs2 hbx1 CT hc HM
   go_wp2_with fail
   refine bodyPost_any_world (fun X => X.heap[w.heap.size]? = some (.cells #[str [], .int .i64 0, .int .i64 0, str [], .slice none 0 0, .slice none 0 0] 74 (0, 0)) ∧ Frm (fun i => i = w.heap.size) w2 X) (six_set (H2.out.2.1) _ _ _ _ _ _) ?_
   clear d0 d1 d2 d3 d4 d5 df
   rintro w9 ⟨h9, hf9⟩
   have k0 := box_cell h9 0
   have k1 := box_cell h9 1
   have k2 := box_cell h9 2
   have k3 := box_cell h9 3
   have k4 := box_cell h9 4
   have k5 := box_cell h9 5
   refine bodyPost_ret (v := .tuple #[.agg #[str [], .int .i64 0, .int .i64 0, str [], .slice none 0 0, .slice none 0 0], .int .i64 (c : Int)]) (by simp [results, Tryz.results124, go_sem, k0, k1, k2, k3, k4, k5]) rfl ?_
   rw [HE.out]
   exact memErr (frm_bm H1.out.1 H2.out.1.2) hb (H2.out.1.1) hf9 H2.out.2.2
  | ok name q =>
   rw [hx] at h2
   obtain ⟨rfl, hs2, hq, hnl⟩ := h2
   obtain ⟨n, D, hown, hn, hIs, hat⟩ := H1.out.2.2.1.frm hs2.2 hne
   have hkey : keyOf Tryz.prog 9 (str name) = some (.string name) := Go.WideMaps.keyOf_string_mk Tryz.underlying9 (by simp [ByteArray.size, maxLen]; omega)
   have hatn := hat name
   have HI := Lib.hid (And.intro hn (And.intro hIs hat))
   have HM2 := HM.out
   rw [hx] at HM2
   dsimp only at HM2
   have H2 : Hid (Frm (fun i => i = b ∨ i = mb) w w2 ∧ w2.heap[w.heap.size]? = some (.cells #[str [], .int .i64 0, .int .i64 0, str [], .slice none 0 0, .slice none 0 0] 74 (0, 0)) ∧ JRb w2 b t q o ∧ w.heap.size < w2.heap.size) := Lib.hid ⟨frm_bm H1.out.1 hs2.2, box_frm H1.out.2.1 hs2.2 (fun e => by omega), hs2.1, by have := H1.out.2.2.2; have := hs2.2.size; omega⟩
   have hn2 : n < maxLen := by unfold maxLen; omega
   clear hs2 hx HM CT H1 hat hn hIs
   by_cases hin : name ∈ ns
   · rw [if_pos hin] at hatn HM2
     have HE := Lib.hid HM2
     clear HM2 hin
     go_wp2_with (at_lookup; refine hold ?_)
     intro _
     refine wpList_lookup_own_int _ rfl _ _ 178 rfl 9 3 .i64 lawS Tryz.underlying178 Tryz.underlying3 (zeroI _) mb n D rfl hown (str name) (.string name) rfl hkey ?_
     intro c hc _
     obtain rfl : c = 1 := by rw [hatn] at hc; simpa using hc.symm
     clear hc
     go_wp2_with (at_mapUpdate; refine hold ?_)
     intro _
     refine wpList_mapUpdate_own _ rfl _ _ _ 178 rfl 9 3 lawS Tryz.underlying178 _ mb n D rfl hown hn2 _ _ _ rfl rfl hkey _ [] (plainElem_int Tryz.underlying3 (by decide)) ?_
     intro w3 hown3 hg3
     have hat2 : (D.put (.string name) (.lit (.int .i64 2))).atKey (.string name) (.lit (.int .i64 0)) = .lit (.int .i64 2) := atKey_put_same HI.out.2.1 (by simp [WideAt.IsKeyLit]) _ _
     have hf3 : Frm (fun i => i = mb) w2 w3 := Frm.of_grown hg3 (fun k hk => by cases hk; rfl)
     have H3 : Hid (Frm (fun i => i = b ∨ i = mb) w w3 ∧ w3.heap[w.heap.size]? = some (.cells #[str [], .int .i64 0, .int .i64 0, str [], .slice none 0 0, .slice none 0 0] 74 (0, 0)) ∧ JRb w3 b t q o) := Lib.hid ⟨H2.out.1.trans hf3 (fun _ _ e => .inr e), box_frm H2.out.2.1 hf3 (fun e => by omega), H2.out.2.2.1.frm hf3 (fun e => hne e.symm)⟩
     have hbx1 := H3.out.2.1
     have d0 := box_cell hbx1 0
     have d1 := box_cell hbx1 1
     have d2 := box_cell hbx1 2
     have d3 := box_cell hbx1 3
     have d4 := box_cell hbx1 4
     have d5 := box_cell hbx1 5
     have df := box_fr hbx1
     clear hown hg3 hf3 H2 hbx1
     go_wp2_with (at_lookup; refine hold ?_)
     intro _
     refine wpList_lookup_own_int _ rfl _ _ 178 rfl 9 3 .i64 lawS Tryz.underlying178 Tryz.underlying3 (zeroI _) mb (n + 1) _ rfl hown3 (str name) (.string name) rfl hkey ?_
     intro c hc _
     obtain rfl : c = 2 := by have e := hat2.symm.trans hc; simpa using e.symm
     clear hc hown3 hkey hatn hat2
     go_wp2_with fail
     refine bodyPost_any_world (fun X => X.heap[w.heap.size]? = some (.cells #[str [], .int .i64 0, .int .i64 0, str [], .slice none 0 0, .slice none 0 0] 74 (0, 0)) ∧ Frm (fun i => i = w.heap.size) w3 X) (six_set (H3.out.2.1) _ _ _ _ _ _) ?_
     clear d0 d1 d2 d3 d4 d5 df
     rintro w9 ⟨h9, hf9⟩
     have k0 := box_cell h9 0
     have k1 := box_cell h9 1
     have k2 := box_cell h9 2
     have k3 := box_cell h9 3
     have k4 := box_cell h9 4
     have k5 := box_cell h9 5
     refine bodyPost_ret (v := .tuple #[.agg #[str [], .int .i64 0, .int .i64 0, str [], .slice none 0 0, .slice none 0 0], .int .i64 4]) (by simp [results, Tryz.results124, go_sem, k0, k1, k2, k3, k4, k5]) rfl ?_
     rw [HE.out]
     exact memErr (H3.out.1) hb (H3.out.2.2) hf9 (by decide)
   rw [if_neg hin] at hatn HM2
   have HM := Lib.hid HM2
   clear HM2 hin
   go_wp2_with (at_lookup; refine hold ?_)
   intro _
   refine wpList_lookup_own_int _ rfl _ _ 178 rfl 9 3 .i64 lawS Tryz.underlying178 Tryz.underlying3 (zeroI _) mb n D rfl hown (str name) (.string name) rfl hkey ?_
   intro c hc _
   obtain rfl : c = 0 := by rw [hatn] at hc; simpa using hc.symm
   clear hc
   go_wp2_with (at_mapUpdate; refine hold ?_)
   intro _
   refine wpList_mapUpdate_own _ rfl _ _ _ 178 rfl 9 3 lawS Tryz.underlying178 _ mb n D rfl hown hn2 _ _ _ rfl rfl hkey _ [] (plainElem_int Tryz.underlying3 (by decide)) ?_
   intro w3 hown3 hg3
   have hat2 : (D.put (.string name) (.lit (.int .i64 1))).atKey (.string name) (.lit (.int .i64 0)) = .lit (.int .i64 1) := atKey_put_same HI.out.2.1 (by simp [WideAt.IsKeyLit]) _ _
   have hf3 : Frm (fun i => i = mb) w2 w3 := Frm.of_grown hg3 (fun k hk => by cases hk; rfl)
   have HNN : Hid (NamM w3 mb (ns ++ [name])) := Lib.hid (NamM.put hown3 HI.out.1 HI.out.2.1 HI.out.2.2)
   have H3 : Hid (Frm (fun i => i = b ∨ i = mb) w w3 ∧ w3.heap[w.heap.size]? = some (.cells #[str [], .int .i64 0, .int .i64 0, str [], .slice none 0 0, .slice none 0 0] 74 (0, 0)) ∧ JRb w3 b t q o ∧ w.heap.size < w3.heap.size) := Lib.hid ⟨H2.out.1.trans hf3 (fun _ _ e => .inr e), box_frm H2.out.2.1 hf3 (fun e => by omega), H2.out.2.2.1.frm hf3 (fun e => hne e.symm), by have := H2.out.2.2.2; have := hf3.size; omega⟩
   have CN := Lib.hid (next_any t b q o w3 H3.out.2.2.1 hq (by omega))
   have hs := skp_le t hq
   clear hown hg3 hf3 H2
   go_wp2_with (at_lookup; refine hold ?_)
   intro _
   refine wpList_lookup_own_int _ rfl _ _ 178 rfl 9 3 .i64 lawS Tryz.underlying178 Tryz.underlying3 (zeroI _) mb (n + 1) _ rfl hown3 (str name) (.string name) rfl hkey ?_
   intro c hc _
   obtain rfl : c = 1 := by have e := hat2.symm.trans hc; simpa using e.symm
   clear hc hown3 hkey hatn hat2 HI hn2
   go_wp2_with fail
   refine CN.out.mono ?_
   rintro e w4 ⟨rfl, h4⟩
   have H4 : Hid (Frm (fun i => i = b ∨ i = mb) w w4 ∧ w4.heap[w.heap.size]? = some (.cells #[str [], .int .i64 0, .int .i64 0, str [], .slice none 0 0, .slice none 0 0] 74 (0, 0)) ∧ NamM w4 mb (ns ++ [name]) ∧ w.heap.size < w4.heap.size ∧ JRb w4 b t (skp t q) o) := Lib.hid ⟨frm_bm H3.out.1 h4.2, box_frm H3.out.2.1 h4.2 (fun e => by omega), HNN.out.frm h4.2 hne, by have := H3.out.2.2.2; have := h4.2.size; omega, h4.1⟩
   clear h4 CN H3 HNN
   obtain ⟨q4, hq4⟩ : ∃ q4, q4 = skp t q := ⟨_, rfl⟩
   rw [← hq4] at H4 HM hs
   cases hx : t[skp t q]? with
   | none =>
    obtain ⟨e1, e2⟩ := nx_none hx
    rw [e1, e2]
    have HE : Hid (R = .err 2) := Lib.hid (by rw [HM.out, hq4, hx])
    have hbx1 := H4.out.2.1
    have d0 := box_cell hbx1 0
    have d1 := box_cell hbx1 1
    have d2 := box_cell hbx1 2
    have d3 := box_cell hbx1 3
    have d4 := box_cell hbx1 4
    have d5 := box_cell hbx1 5
    have df := box_fr hbx1
    clear hbx1 HM hx e1 e2 hq4
    go_wp2_with fail
    refine bodyPost_any_world (fun X => X.heap[w.heap.size]? = some (.cells #[str [], .int .i64 0, .int .i64 0, str [], .slice none 0 0, .slice none 0 0] 74 (0, 0)) ∧ Frm (fun i => i = w.heap.size) w4 X) (six_set (H4.out.2.1) _ _ _ _ _ _) ?_
    clear d0 d1 d2 d3 d4 d5 df
    rintro w9 ⟨h9, hf9⟩
    have k0 := box_cell h9 0
    have k1 := box_cell h9 1
    have k2 := box_cell h9 2
    have k3 := box_cell h9 3
    have k4 := box_cell h9 4
    have k5 := box_cell h9 5
    refine bodyPost_ret (v := .tuple #[.agg #[str [], .int .i64 0, .int .i64 0, str [], .slice none 0 0, .slice none 0 0], .int .i64 2]) (by simp [results, Tryz.results124, go_sem, k0, k1, k2, k3, k4, k5]) rfl ?_
    rw [HE.out]
    exact memErr (H4.out.1) hb (H4.out.2.2.2.2) hf9 (by decide)
   | some d =>
    obtain ⟨e1, e2, hlt⟩ := nx_some hx
    rw [e1, e2]
    have HM2 := HM.out
    rw [hq4, hx] at HM2
    dsimp only at HM2
    rw [← hq4] at HM2 hlt
    clear e1 e2 hx hq4 HM
    by_cases hd : d = 58
    · rw [if_neg (by simpa using hd)] at HM2
      have HM := Lib.hid HM2
      have n1 : ((d.toNat : Int) != 58) = false := by rw [hd]; rfl
      have c1 := H4.out.2.2.2.2.c1
      have f1 := H4.out.2.2.2.2.fr 1
      have hf5 : Frm (fun i => i = b) w4 (w4.setCell ⟨b, 1, none⟩ (.int .i64 ((q4 : Int) + 1))) := Frm.set _ rfl
      have H5 := Lib.hid (And.intro (frm_bm H4.out.1 hf5) (And.intro (box_frm H4.out.2.1 hf5 (fun e => by omega)) (And.intro (H4.out.2.2.1.frm hf5 hne) (H4.out.2.2.2.2.setAt (q4 + 1) ((q4 : Int) + 1) (by omega)))))
      have hz5 : w.heap.size < (w4.setCell ⟨b, 1, none⟩ (.int .i64 ((q4 : Int) + 1))).heap.size := by have := H4.out.2.2.2.1; simpa using this
      have CV5 := Lib.hid (CV.out _ (q4 + 1) H5.out.2.2.2 (by omega))
      clear HM2 hd H4 hf5
      go_wp2_with fail
      generalize w4.setCell ⟨b, 1, none⟩ (.int .i64 ((q4 : Int) + 1)) = w5 at *
      refine CV5.out.mono ?_
      intro e w6 h6
      clear CV5 c1 f1
      cases hx : f (q4 + 1) with
      | err c =>
       rw [hx] at h6
       obtain ⟨v, cs, rfl, hc, hv, q', o', hs6⟩ := h6
       have HE : Hid (R = .err c) := Lib.hid (by rw [HM.out, hx])
       have HV := Lib.hid hv
       obtain ⟨al, ll, cl, am, lm, cm, rfl, _, _⟩ := hv.open
       have H6 : Hid (Frm (fun i => i = b ∨ i = mb) w w6 ∧ w6.heap[w.heap.size]? = some (.cells #[str [], .int .i64 0, .int .i64 0, str [], .slice none 0 0, .slice none 0 0] 74 (0, 0)) ∧ JRb w6 b t q' o' ∧ w.heap.size < w6.heap.size) := Lib.hid ⟨frm_bm H5.out.1 hs6.2, box_frm H5.out.2.1 hs6.2 (fun e => by omega), hs6.1, by have := hs6.2.size; omega⟩
       have hc0 : ((c : Int) == 0) = false := by rw [beq_eq_false_iff_ne]; omega
       have HC := Lib.hid hc
       clear hv hs6 H5 hx HM hc
       go_upto_region 17 with fail
       refine wp_any_world (fun X => Below w6.heap.size w6 X ∧ X.heap[w6.heap.size]? = some (.cells #[.int .i64 v.kind, .int .i64 v.n, str v.s, .slice al ll cl, .slice am lm cm] 72 (0, 0))) ⟨below_alloc _ _, heap_alloc_new _ _⟩ ?_
       rintro w7 ⟨hb7, hx7⟩
       have hbx1 := box_up H6.out.2.1 hb7
       have d0 := box_cell hbx1 0
       have d1 := box_cell hbx1 1
       have d2 := box_cell hbx1 2
       have d3 := box_cell hbx1 3
       have d4 := box_cell hbx1 4
       have d5 := box_cell hbx1 5
       have df := box_fr hbx1
       obtain ⟨p0, p1, p2, p3, p4⟩ := box5 hx7
       have pf := box_fr hx7
       have H7 := Lib.hid (And.intro (H6.out.1.trans (Frm.of_below (F := fun _ => False) hb7) (fun _ _ e => e.elim)) (And.intro hbx1 (And.intro (H6.out.2.2.1.below hb7) (HV.out.up hb7))))
       clear hbx1 hx7 hb7 H6
       go_wp2_with fail
       refine bodyPost_any_world (fun X => X.heap[w.heap.size]? = some (.cells #[str name, .int .i64 v.kind, .int .i64 v.n, str v.s, .slice al ll cl, .slice am lm cm] 74 (0, 0)) ∧ Frm (fun i => i = w.heap.size) w7 X) (six_set H7.out.2.1 _ _ _ _ _ _) ?_
       clear d0 d1 d2 d3 d4 d5 df p0 p1 p2 p3 p4 pf
       rintro w9 ⟨h9, hf9⟩
       have k0 := box_cell h9 0
       have k1 := box_cell h9 1
       have k2 := box_cell h9 2
       have k3 := box_cell h9 3
       have k4 := box_cell h9 4
       have k5 := box_cell h9 5
       refine bodyPost_ret (v := .tuple #[.agg #[str name, .int .i64 v.kind, .int .i64 v.n, str v.s, .slice al ll cl, .slice am lm cm], .int .i64 (c : Int)]) (by simp [results, Tryz.results124, go_sem, k0, k1, k2, k3, k4, k5]) rfl ?_
       rw [HE.out]
       exact ⟨(name, v), [.int .i64 v.kind, .int .i64 v.n, str v.s, .slice al ll cl, .slice am lm cm], rfl, HC.out, (H7.out.2.2.2.frm hf9 (fun i hi e => by omega)).mono (fun i _ hi => by omega), H7.out.1.trans hf9 (fun i hi e => by omega), q', o', H7.out.2.2.1.frm hf9 (by omega)⟩
      | ok v q7 =>
       rw [hx] at h6
       obtain ⟨cs, rfl, hv, hs6, hq7⟩ := h6
       have HE : Hid (R = .ok (name, v) q7) := Lib.hid (by rw [HM.out, hx])
       have HV := Lib.hid hv
       obtain ⟨al, ll, cl, am, lm, cm, rfl, _, _⟩ := hv.open
       have H6 : Hid (Frm (fun i => i = b ∨ i = mb) w w6 ∧ w6.heap[w.heap.size]? = some (.cells #[str [], .int .i64 0, .int .i64 0, str [], .slice none 0 0, .slice none 0 0] 74 (0, 0)) ∧ JRb w6 b t q7 o ∧ w.heap.size < w6.heap.size) := Lib.hid ⟨frm_bm H5.out.1 hs6.2, box_frm H5.out.2.1 hs6.2 (fun e => by omega), hs6.1, by have := hs6.2.size; omega⟩
       have HC := Lib.hid (And.intro hq7 (H5.out.2.2.1.frm hs6.2 hne))
       clear hv hs6 H5 hx HM hq7
       go_upto_region 17 with fail
       refine wp_any_world (fun X => Below w6.heap.size w6 X ∧ X.heap[w6.heap.size]? = some (.cells #[.int .i64 v.kind, .int .i64 v.n, str v.s, .slice al ll cl, .slice am lm cm] 72 (0, 0))) ⟨below_alloc _ _, heap_alloc_new _ _⟩ ?_
       rintro w7 ⟨hb7, hx7⟩
       have hbx1 := box_up H6.out.2.1 hb7
       have d0 := box_cell hbx1 0
       have d1 := box_cell hbx1 1
       have d2 := box_cell hbx1 2
       have d3 := box_cell hbx1 3
       have d4 := box_cell hbx1 4
       have d5 := box_cell hbx1 5
       have df := box_fr hbx1
       obtain ⟨p0, p1, p2, p3, p4⟩ := box5 hx7
       have pf := box_fr hx7
       have H7 := Lib.hid (And.intro (H6.out.1.trans (Frm.of_below (F := fun _ => False) hb7) (fun _ _ e => e.elim)) (And.intro hbx1 (And.intro (H6.out.2.2.1.below hb7) (HV.out.up hb7))))
       have HNM := Lib.hid (HC.out.2.up hb7)
       clear hbx1 hx7 hb7 H6
       go_wp2_with fail
       refine bodyPost_any_world (fun X => X.heap[w.heap.size]? = some (.cells #[str name, .int .i64 v.kind, .int .i64 v.n, str v.s, .slice al ll cl, .slice am lm cm] 74 (0, 0)) ∧ Frm (fun i => i = w.heap.size) w7 X) (six_set H7.out.2.1 _ _ _ _ _ _) ?_
       clear d0 d1 d2 d3 d4 d5 df p0 p1 p2 p3 p4 pf
       rintro w9 ⟨h9, hf9⟩
       have k0 := box_cell h9 0
       have k1 := box_cell h9 1
       have k2 := box_cell h9 2
       have k3 := box_cell h9 3
       have k4 := box_cell h9 4
       have k5 := box_cell h9 5
       refine bodyPost_ret (v := .tuple #[.agg #[str name, .int .i64 v.kind, .int .i64 v.n, str v.s, .slice al ll cl, .slice am lm cm], .int .i64 0]) (by simp [results, Tryz.results124, go_sem, k0, k1, k2, k3, k4, k5]) rfl ?_
       rw [HE.out]
       exact ⟨[.int .i64 v.kind, .int .i64 v.n, str v.s, .slice al ll cl, .slice am lm cm], rfl, (H7.out.2.2.2.frm hf9 (fun i hi e => by omega)).mono (fun i _ hi => by omega), H7.out.1.trans hf9 (fun i hi e => by omega), H7.out.2.2.1.frm hf9 (by omega), HC.out.1, HNM.out.frm hf9 (by omega)⟩
    rw [if_pos (by simpa using hd)] at HM2
    have HE := Lib.hid HM2
    have n1 : ((d.toNat : Int) != 58) = true := by
     rw [bne_iff_ne]; intro h; exact hd (UInt8.toNat_inj.1 (by have : (58 : UInt8).toNat = 58 := rfl; omega))
    have hbx1 := H4.out.2.1
    have d0 := box_cell hbx1 0
    have d1 := box_cell hbx1 1
    have d2 := box_cell hbx1 2
    have d3 := box_cell hbx1 3
    have d4 := box_cell hbx1 4
    have d5 := box_cell hbx1 5
    have df := box_fr hbx1
    clear hbx1 HM2 hd
    go_wp2_with fail
    refine bodyPost_any_world (fun X => X.heap[w.heap.size]? = some (.cells #[str [], .int .i64 0, .int .i64 0, str [], .slice none 0 0, .slice none 0 0] 74 (0, 0)) ∧ Frm (fun i => i = w.heap.size) w4 X) (six_set (H4.out.2.1) _ _ _ _ _ _) ?_
    clear d0 d1 d2 d3 d4 d5 df
    rintro w9 ⟨h9, hf9⟩
    have k0 := box_cell h9 0
    have k1 := box_cell h9 1
    have k2 := box_cell h9 2
    have k3 := box_cell h9 3
    have k4 := box_cell h9 4
    have k5 := box_cell h9 5
    refine bodyPost_ret (v := .tuple #[.agg #[str [], .int .i64 0, .int .i64 0, str [], .slice none 0 0, .slice none 0 0], .int .i64 4]) (by simp [results, Tryz.results124, go_sem, k0, k1, k2, k3, k4, k5]) rfl ?_
    rw [HE.out]
    exact memErr (H4.out.1) hb (H4.out.2.2.2.2) hf9 (by decide)
end Go.Proofs.YtegblhmcfemfgaaGreatDoor
namespace Go.Proofs
open Go.Shelf
def Tryz.sortJ_ren : Go.Shelf.Ren := ⟨fun | 6 => 125 | 15 => 70 | 14 => 143 | 28 => 88 | 29 => 89 | 20 => 156 | 21 => 157 | 22 => 158 | 23 => 159 | 24 => 160 | 25 => 161 | 26 => 162 | 27 => 163 | 46 => 173 | 47 => 113 | 48 => 114 | 49 => 174 | 50 => 175 | 57 => 182 | n => n, fun | 22 => 70 | 24 => 74 | 25 => 183 | 3 => 3 | 39 => 127 | 0 => 0 | 53 => 147 | 55 => 149 | 4 => 4 | 46 => 140 | 45 => 139 | 50 => 144 | 5 => 5 | 9 => 9 | 66 => 170 | 70 => 174 | 76 => 190 | 77 => 191 | n => n, fun | n => n⟩
theorem Tryz.sortJ : Go.Proofs.SlLaysF0.n6 Tryz.prog Tryz.sortJ_ren := {
 mixed := by kernel_rfl
 f6 := ⟨Tryz.f125.name, by decide, Tryz.func125.trans (congrArg some (by kernel_rfl))⟩
 f14 := ⟨Tryz.f143.name, by decide, Tryz.func143.trans (congrArg some (by kernel_rfl))⟩
 f15 := Tryz.func70.trans (congrArg some (by kernel_rfl))
 f20 := ⟨Tryz.f156.name, by decide, Tryz.func156.trans (congrArg some (by kernel_rfl))⟩
 f21 := ⟨Tryz.f157.name, by decide, Tryz.func157.trans (congrArg some (by kernel_rfl))⟩
 f22 := ⟨Tryz.f158.name, by decide, Tryz.func158.trans (congrArg some (by kernel_rfl))⟩
 f23 := ⟨Tryz.f159.name, by decide, Tryz.func159.trans (congrArg some (by kernel_rfl))⟩
 f24 := ⟨Tryz.f160.name, by decide, Tryz.func160.trans (congrArg some (by kernel_rfl))⟩
 f25 := ⟨Tryz.f161.name, by decide, Tryz.func161.trans (congrArg some (by kernel_rfl))⟩
 f26 := ⟨Tryz.f162.name, by decide, Tryz.func162.trans (congrArg some (by kernel_rfl))⟩
 f27 := ⟨Tryz.f163.name, by decide, Tryz.func163.trans (congrArg some (by kernel_rfl))⟩
 f28 := Tryz.func88.trans (congrArg some (by kernel_rfl))
 f29 := Tryz.func89.trans (congrArg some (by kernel_rfl))
 f46 := ⟨Tryz.f173.name, by decide, Tryz.func173.trans (congrArg some (by kernel_rfl))⟩
 f47 := Tryz.func113.trans (congrArg some (by kernel_rfl))
 f48 := Tryz.func114.trans (congrArg some (by kernel_rfl))
 f49 := ⟨Tryz.f174.name, by decide, Tryz.func174.trans (congrArg some (by kernel_rfl))⟩
 f50 := ⟨Tryz.f175.name, by decide, Tryz.func175.trans (congrArg some (by kernel_rfl))⟩
 f57 := ⟨Tryz.f182.name, by decide, Tryz.func182.trans (congrArg some (by kernel_rfl))⟩
 t0 := Tryz.underlying0
 a0 := Tryz.isAgg0
 z0 := Tryz.sizeOf0
 v0 := Tryz.zeroValue0
 t3 := Tryz.underlying3
 a3 := Tryz.isAgg3
 z3 := Tryz.sizeOf3
 v3 := Tryz.zeroValue3
 t4 := Tryz.underlying4
 a4 := Tryz.isAgg4
 z4 := Tryz.sizeOf4
 v4 := Tryz.zeroValue4
 t5 := Tryz.underlying5
 a5 := Tryz.isAgg5
 z5 := Tryz.sizeOf5
 v5 := Tryz.zeroValue5
 t9 := Tryz.underlying9
 a9 := Tryz.isAgg9
 z9 := Tryz.sizeOf9
 v9 := Tryz.zeroValue9
 t22 := Tryz.underlying70
 a22 := Tryz.isAgg70
 z22 := Tryz.sizeOf70
 v22 := Tryz.zeroValue70
 t25 := Tryz.underlying183
 a25 := Tryz.isAgg183
 z25 := Tryz.sizeOf183
 v25 := Tryz.zeroValue183
 t39 := Tryz.underlying127
 a39 := Tryz.isAgg127
 z39 := Tryz.sizeOf127
 v39 := Tryz.zeroValue127
 t45 := Tryz.underlying139
 a45 := Tryz.isAgg139
 z45 := Tryz.sizeOf139
 v45 := Tryz.zeroValue139
 t46 := Tryz.underlying140
 a46 := Tryz.isAgg140
 z46 := Tryz.sizeOf140
 v46 := Tryz.zeroValue140
 t50 := Tryz.underlying144
 a50 := Tryz.isAgg144
 z50 := Tryz.sizeOf144
 v50 := Tryz.zeroValue144
 t53 := Tryz.underlying147
 a53 := Tryz.isAgg147
 z53 := Tryz.sizeOf147
 v53 := Tryz.zeroValue147
 t55 := Tryz.underlying149
 a55 := Tryz.isAgg149
 z55 := Tryz.sizeOf149
 v55 := Tryz.zeroValue149
 t66 := Tryz.underlying170
 a66 := Tryz.isAgg170
 z66 := Tryz.sizeOf170
 v66 := Tryz.zeroValue170
 t70 := Tryz.underlying174
 a70 := Tryz.isAgg174
 z70 := Tryz.sizeOf174
 v70 := Tryz.zeroValue174
 t76 := Tryz.underlying190
 a76 := Tryz.isAgg190
 z76 := Tryz.sizeOf190
 v76 := Tryz.zeroValue190
 t77 := Tryz.underlying191
 a77 := Tryz.isAgg191
 z77 := Tryz.sizeOf191
 v77 := Tryz.zeroValue191 }
end Go.Proofs
namespace Go.Proofs
open Go.Shelf
def Tryz.lays106_ren : Go.Shelf.Ren := ⟨fun | 106 => 127 | 213 => 144 | 265 => 164 | n => n, fun | 9 => 9 | 3 => 3 | n => n, fun | n => n⟩
theorem Tryz.lays106 : Go.Proofs.Lays.n106 Tryz.prog Tryz.lays106_ren := {
 mixed := by kernel_rfl
 f106 := Tryz.func127.trans (congrArg some (by kernel_rfl))
 f213 := Tryz.func144.trans (congrArg some (by kernel_rfl))
 f265 := Tryz.func164.trans (congrArg some (by kernel_rfl))
 t3 := Tryz.underlying3
 a3 := Tryz.isAgg3
 z3 := Tryz.sizeOf3
 v3 := Tryz.zeroValue3
 t9 := Tryz.underlying9
 a9 := Tryz.isAgg9
 z9 := Tryz.sizeOf9
 v9 := Tryz.zeroValue9 }
open Go.RowKit in
theorem Tryz.strings_Compare (a b : ByteArray) (w : World) :
 Calls Tryz.prog 127 #[.string a, .string b] w fun e w' => e = .returned (.int .i64 (Lib.compareBytes a.data.toList b.data.toList)) ∧ w' = w := Any.strings_Compare Tryz.lays106 a b w
end Go.Proofs
namespace Go.Proofs.YtegblhmcfemfgaaGreatDoor
open Go.RowKit
structure MemR where
 m : MemT
 c1 : Value
 c2 : Value
 c3 : Value
 c4 : Value
 c5 : Value
 h : ∀ v ∈ [c1, c2, c3, c4, c5], v.oneCell' = true
instance inhMemR : Inhabited MemR := ⟨⟨default, .int .i64 0, .int .i64 0, .int .i64 0, .int .i64 0, .int .i64 0, by simp [Value.oneCell']⟩⟩
def encR (x : MemR) : List Value := [str x.m.1, x.c1, x.c2, x.c3, x.c4, x.c5]
def cmpR (x y : MemR) : Int := Lib.compareBytes x.m.1 y.m.1
theorem cmp_less : ∀ a b : List UInt8, Lib.compareBytes a b < 0 ↔ Op.bytesLess a b = true
 | [], [] => by simp [Lib.compareBytes, Op.bytesLess]
 | [], _ :: _ => by simp [Lib.compareBytes, Op.bytesLess]
 | _ :: _, [] => by simp [Lib.compareBytes, Op.bytesLess]
 | a :: s, b :: t => by
   have ih := cmp_less s t
   unfold Lib.compareBytes Op.bytesLess
   by_cases h1 : a < b
   · simp [h1]
   by_cases h2 : b < a
   · simp only [h1, h2, if_false, if_true]
     have : a ≠ b := fun e => by subst e; exact h1 h2
     simp [this]
   have e : a = b := UInt8.toNat_inj.1 (by rw [UInt8.lt_iff_toNat_lt] at h1 h2; omega)
   subst e
   simp only [h1, if_false]
   rw [ih]
   simp
theorem ltR (x y : MemR) : ltOf cmpR x y = Op.bytesLess x.m.1 y.m.1 := by
 unfold ltOf cmpR
 have := cmp_less x.m.1 y.m.1
 cases h : Op.bytesLess x.m.1 y.m.1 with
 | true => exact decide_eq_true (this.2 h)
 | false => exact decide_eq_false (fun h2 => by rw [this.1 h2] at h; cases h)
theorem swoR : Go.Sort.SWO (ltOf cmpR) where
 irrefl x := by rw [ltR]; exact bl_irr _
 trans x y z h1 h2 := by rw [ltR] at *; exact bl_tr _ _ _ h1 h2
 ntrans x y z h1 h2 := by
  rw [ltR] at *
  cases h : Op.bytesLess x.m.1 z.m.1 with
  | false => rfl
  | true =>
   cases h3 : Op.bytesLess y.m.1 x.m.1 with
   | true =>
    have := bl_tr _ _ _ h3 h
    rw [this] at h2; cases h2
   | false =>
    have e := bl_tot _ _ h1 h3
    rw [e, h2] at h; cases h
theorem cloR_any (x y : MemR) (W : World) : Calls Tryz.prog 126 #[.agg (encR x).toArray, .agg (encR y).toArray] W fun e w' => e = .returned (.int .i64 (cmpR x y)) ∧ ∃ q os', w' = Go.Sort.grow (W.drewN q) os' := by
 have CC : Hid (∀ W, Calls Tryz.prog 127 #[str x.m.1, str y.m.1] W fun e w' => e = .returned (.int .i64 (cmpR x y)) ∧ w' = W) := Lib.hid (fun W => Tryz.strings_Compare _ _ W)
 obtain ⟨c, hc⟩ : ∃ c, c = cmpR x y := ⟨_, rfl⟩
 rw [← hc] at CC ⊢
 obtain ⟨⟨k, v⟩, c1, c2, c3, c4, c5, h⟩ := x
 obtain ⟨⟨k', v'⟩, d1, d2, d3, d4, d5, h'⟩ := y
 dsimp only [encR] at CC ⊢
 clear hc
 simp only [List.mem_cons, List.not_mem_nil, or_false, forall_eq_or_imp, forall_eq] at h h'
 obtain ⟨h1, h2, h3, h4, h5⟩ := h
 obtain ⟨g1, g2, g3, g4, g5⟩ := h'
 go_enter Tryz.func126, Tryz.ntmps126
 go_wp2_with fail
 refine (CC.out _).mono ?_
 rintro e w' ⟨rfl, hw⟩
 have HW := Lib.hid hw
 clear hw CC
 go_wp2_with fail
 go_ret
 exact ⟨rfl, 0, _, by rw [HW.out, Go.Sort.alloc_eq_grow, Go.Sort.alloc_eq_grow, Go.Sort.grow_grow]; rfl⟩
theorem arrR (l : List MemR) (i : Nat) (h : i < l.length) : l.toArray[i]! = l[i] := by
 rw [getElem!_pos l.toArray i (by simpa using h)]; simp
theorem encR_len (l : List MemR) : ∀ r ∈ l.map encR, r.length = 6 := by
 intro r hr
 obtain ⟨x, _, rfl⟩ := List.mem_map.1 hr
 rfl
theorem holdsR {w : World} {n0 B cap : Nat} {T : TypeId} {l : List MemR} (hr : w.ownsRow n0 T 6 (.slice (some ⟨B, 0, none⟩) l.length cap) l.length (l.map encR).flatten) :
 Go.Sort.HoldsK encR 6 w B 0 l.toArray ∧ B < w.heap.size ∧ n0 ≤ B ∧ l.length ≤ 9223372036854775807 ∧ l.length ≤ cap ∧ cap ≤ 9223372036854775807 := by
 rcases hr.2 with ⟨he, _⟩ | ⟨g, cap', cur, he, hg0, hg, h1, h2, h3, h4⟩
 · cases he
 simp only [Value.slice.injEq, Option.some.injEq, Addr.mk.injEq] at he
 obtain ⟨⟨rfl, _⟩, _, rfl⟩ := he
 have hlt : B < w.heap.size := by
  by_cases q : B < w.heap.size
  · exact q
  rw [Array.getElem?_eq_none (by omega)] at hg; cases hg
 simp only [maxLen] at h2
 refine ⟨fun j hj => ?_, hlt, hg0, by omega, h1, by omega⟩
 rw [Go.Sort.size_flatK] at hj
 have hs : l.toArray.size = l.length := by simp
 rw [hs] at hj
 have hi : j / 6 < l.length := by omega
 have hf := flat_at 6 (l.map encR) (encR_len l) (j / 6) (by simpa using hi) (j % 6) (by omega)
 have ej : j / 6 * 6 + j % 6 = j := by omega
 rw [ej] at hf
 have e2 := congrArg (fun z => z[j]?) h4
 simp only [List.getElem?_take] at e2
 rw [if_pos hj, hf] at e2
 constructor
 · rw [Go.Sort.get_flatK _ _ _ _ (by rw [hs]; exact hj)]
   simp only [World.cell?, hg, Nat.zero_add, id]
   rw [arrR l _ hi]
   have hc : (encR l[j / 6])[j % 6]? = some ((encR l[j / 6])[j % 6]!) := by
    have : j % 6 < (encR l[j / 6]).length := by simp [encR]; omega
    rw [getElem!_pos (encR l[j / 6]) (j % 6) this, List.getElem?_eq_getElem this]
   simp only [List.getElem_map] at e2
   rw [hc] at e2
   simpa using e2
 simp [World.frozen?, hg]
theorem frm_sortR {w : World} {B n : Nat} {d : Array MemR} {os : Array Obj} : Frm (fun i => i = B) w (sortWorldK encR 6 w B 0 n d os) := by
 unfold sortWorldK Go.Sort.putRowK Go.Sort.putRow Go.Sort.mapBlock Go.Sort.grow Go.Sort.ahead
 refine ⟨rfl, rfl, rfl, ?_, fun k hk hn => ?_⟩
 · simp
 simp only [Array.getElem?_append, Array.size_modify]
 rw [if_pos (by omega), Array.getElem?_modify, if_neg (by omega)]
set_option maxHeartbeats 1000000 in
theorem jsort_any (n0 B cap : Nat) (l : List MemR) (w : World) (hr : w.ownsRow n0 74 6 (.slice (some ⟨B, 0, none⟩) l.length cap) l.length (l.map encR).flatten) (h12 : l.length ≤ 1000000) :
 Calls Tryz.prog 125 #[.slice (some ⟨B, 0, none⟩) l.length cap, .func (.func 126) #[] #[]] w fun e w' => e = .returned (.tuple #[]) ∧ ∃ d : List MemR, d.Perm l ∧ d.Pairwise (fun a b => Op.bytesLess b.m.1 a.m.1 = false) ∧ RdFB (fun i => i = B) 6 w' (.slice (some ⟨B, 0, none⟩) l.length cap) (d.map encR) ∧ Frm (fun i => i = B) w w' := by
 obtain ⟨hH, hlt, hn, hmax, hcap, hcapm⟩ := holdsR hr
 have hsz : l.toArray.size = l.length := by simp
 have eg : ∀ args w, (callFunc 126 args).run Tryz.prog w = .ok (.enter 126 args) w := enters_of Tryz.func126 (by kernel_rfl) rfl
 have hcon := AnyQ.slices_SortFunc Tryz.sortJ 6 Tryz.isAgg74 Tryz.sizeOf74 encR (fun _ => rfl) (fun x v hv => by
  have := x.h
  simp only [encR, List.mem_cons, List.not_mem_nil, or_false] at hv
  rcases hv with rfl | hv
  · rfl
  exact this v (by simpa using hv)) cmpR swoR 126 #[] B 0 cap l.toArray w eg (fun _ _ _ _ x y => cloR_any x y _) hH hlt (by rw [hsz]; omega)
 rw [hsz] at hcon
 refine Calls.mono (f := 125) hcon ?_
 rintro e w' ⟨rfl, d', n, os, hp, hs, rfl⟩
 refine ⟨rfl, d'.toList, ?_, ?_, ?_, frm_sortR⟩
 · have h3 := hp.2.2
   have h1 := hp.1
   rw [Array.extract_eq_self_of_le (by omega), Array.extract_eq_self_of_le (by omega)] at h3
   simpa using h3
 · rw [List.pairwise_iff_getElem]
   intro i j hi hj hij
   have h1 := hp.1
   rw [hsz] at h1
   have hq := hs i j (Nat.zero_le _) hij (by simpa [h1] using hj)
   rw [ltR] at hq
   rw [getElem!_pos d' i (by simpa using hi), getElem!_pos d' j (by simpa using hj)] at hq
   simpa using hq
 have h1 := hp.1
 have hH' := holdsK_sortWorldK_c encR 6 w B 0 l.toArray d' n os hH hlt h1
 rw [hsz] at h1
 have hl : d'.toList.length = l.length := by simp [h1]
 have hl2 : (d'.toList.map encR).length = l.length := by rw [List.length_map, hl]
 refine ⟨_, cap, by rw [hl2], by rw [hl2]; exact hmax, by rw [hl2]; exact hcap, hcapm, fun _ => ⟨B, 0, rfl, rfl, fun i hi j u hu => ?_⟩⟩
 have hi' : i < d'.size := by simpa using hi
 have hj : j < 6 := by
  have := (List.getElem?_eq_some_iff.1 hu).1
  simpa [encR] using this
 have := (Go.Sort.HoldsK.cell hH' hi' hj).1
 rw [this, getElem!_pos d' i hi']
 simp only [List.getElem_map, Array.getElem_toList] at hu
 rw [← hu]
 have h2 : j < (encR d'[i]).length := by simpa [encR] using hj
 rw [getElem!_pos (encR d'[i]) j h2, List.getElem?_eq_getElem h2]
theorem rdM_all {W : World} {F : Nat → Prop} : ∀ {d : List MemR}, (∀ x ∈ d, RdJ W F x.m.2 [x.c1, x.c2, x.c3, x.c4, x.c5]) → RdM W F (d.map (fun x => x.m)) (d.map encR)
 | [], _ => by unfold RdM; trivial
 | x :: t, h => by
   have h1 := h x (by simp)
   have h2 := rdM_all (d := t) (fun y hy => h y (by simp [hy]))
   obtain ⟨⟨k, v⟩, c1, c2, c3, c4, c5, hc⟩ := x
   simp only [List.map_cons]
   unfold RdM
   exact ⟨⟨_, rfl, h1⟩, h2⟩
theorem rdM_some {W : World} {F : Nat → Prop} : ∀ {l : List MemT} {rs : List (List Value)}, RdM W F l rs → ∃ d : List MemR, d.map (fun x => x.m) = l ∧ d.map encR = rs ∧ ∀ x ∈ d, RdJ W F x.m.2 [x.c1, x.c2, x.c3, x.c4, x.c5]
 | [], [], _ => ⟨[], rfl, rfl, by simp⟩
 | (k, v) :: t, r :: rs, h => by
   unfold RdM at h
   obtain ⟨⟨cs, rfl, hv⟩, h2⟩ := h
   obtain ⟨d, h3, h4, h5⟩ := rdM_some h2
   obtain ⟨al, ll, cl, am, lm, cm, rfl, _, _⟩ := hv.open
   refine ⟨⟨(k, v), .int .i64 v.kind, .int .i64 v.n, str v.s, .slice al ll cl, .slice am lm cm, by simp [Value.oneCell']⟩ :: d, by simp [h3], by simp [h4, encR], fun x hx => ?_⟩
   rcases List.mem_cons.1 hx with rfl | hx
   · exact hv
   exact h5 x hx
 | [], _ :: _, h => by unfold RdM at h; exact h.elim
 | _ :: _, [], h => by unfold RdM at h; exact h.elim
end Go.Proofs.YtegblhmcfemfgaaGreatDoor
namespace Go.Proofs.YtegblhmcfemfgaaGreatDoor
open Go.RowKit Go.Maps
def ObjP (s : Nat) (acc : List MemT) (vl : Value) (rows : List (List Value)) (W : World) : Prop :=
 W.heap[s]? = some (.cells #[.int .i64 0, .int .i64 0, str [], .slice none 0 0, .slice none 0 0] 72 (0, 0)) ∧
 W.heap[s + 1]? = some (.cells #[.int .i64 7, .int .i64 0, str [], .slice none 0 0, vl] 72 (0, 0)) ∧ W.ownsRow (s + 3) 74 6 vl acc.length rows.flatten ∧ RdM W (fun i => s + 2 < i ∧ i < W.heap.size ∧ vl.ownBlock ≠ some i) acc rows
def ObjS (s : Nat) (acc : List MemT) (W : World) : Prop := ∃ vl rows, ObjP s acc vl rows W
theorem ObjP.frm {s : Nat} {acc : List MemT} {vl : Value} {rows : List (List Value)} {W W' : World} {G : Nat → Prop} (h : ObjP s acc vl rows W) (hf : Frm G W W') (hG : ∀ i, s ≤ i → i ≠ s + 2 → i < W.heap.size → ¬ G i) : ObjP s acc vl rows W' := by
 obtain ⟨h1, h2, h3, h4⟩ := h
 have l1 := (Array.getElem?_eq_some_iff.1 h1).1
 have l2 := (Array.getElem?_eq_some_iff.1 h2).1
 refine ⟨box_frm h1 hf (hG _ (Nat.le_refl _) (by omega) l1), box_frm h2 hf (hG _ (by omega) (by omega) l2), owns_frm h3 hf (fun k hk => by have := h3.lt k hk; exact hG k (by omega) (by omega) this.2), ?_⟩
 have := h4.frm hf (fun i hi => hG i (by omega) (by omega) hi.2.1)
 exact this.mono (fun i hi hF => ⟨hF.1, hi, hF.2.2⟩)
theorem ObjS.frm {s : Nat} {acc : List MemT} {W W' : World} {G : Nat → Prop} (h : ObjS s acc W) (hf : Frm G W W') (hG : ∀ i, s ≤ i → i ≠ s + 2 → i < W.heap.size → ¬ G i) : ObjS s acc W' := by
 obtain ⟨vl, rows, h⟩ := h
 exact ⟨vl, rows, h.frm hf hG⟩
theorem ObjP.sz {s : Nat} {acc : List MemT} {vl : Value} {rows : List (List Value)} {W : World} (h : ObjP s acc vl rows W) : s + 2 ≤ W.heap.size ∧ ∀ k, vl.ownBlock = some k → k < W.heap.size :=
 ⟨(Array.getElem?_eq_some_iff.1 h.2.1).1, fun k hk => (h.2.2.1.lt k hk).2⟩
theorem ObjP.add {s : Nat} {acc : List MemT} {vl : Value} {rows : List (List Value)} {W w4 : World} {g cap B0 : Nat} {nm : List UInt8} {v : JV} {cs : List Value} {ob : Obj} (h : ObjP s acc vl rows W) (hB : s + 3 ≤ B0) (hvb : ∀ k, vl.ownBlock = some k → k < B0) (hv : RdJ W (fun i => B0 ≤ i) v cs)
 (ho : w4.ownsRow (s + 3) 74 6 (.slice (some ⟨g, 0, none⟩) (acc.length + 1) cap) (acc.length + 1) (rows.flatten ++ (str nm :: cs))) (hg : (W.alloc ob).grownBy w4 vl.ownBlock) (hl : vl.ownBlock = some g ∨ g = W.heap.size + 1) :
 ObjP s (acc ++ [(nm, v)]) (.slice (some ⟨g, 0, none⟩) (acc.length + 1) cap) (rows ++ [str nm :: cs]) (w4.setCell ⟨s + 1, 4, none⟩ (.slice (some ⟨g, 0, none⟩) (acc.length + 1) cap)) ∧ Frm (fun i => s ≤ i ∧ i ≠ s + 2) W (w4.setCell ⟨s + 1, 4, none⟩ (.slice (some ⟨g, 0, none⟩) (acc.length + 1) cap)) := by
 have hsz := h.sz
 obtain ⟨h1, h2, h3, h4⟩ := h
 have hgb : ∀ k, vl.ownBlock = some k → s + 3 ≤ k := fun k hk => (h3.lt k hk).1
 have f1 : Frm (fun i => vl.ownBlock = some i) W w4 := (Frm.of_below (below_alloc W ob)).trans (Frm.of_grown hg (fun k hk => hk)) (fun _ _ h => h)
 have f2 : Frm (fun i => i = s + 1 ∨ vl.ownBlock = some i) W (w4.setCell ⟨s + 1, 4, none⟩ (.slice (some ⟨g, 0, none⟩) (acc.length + 1) cap)) :=
  (f1.mono (fun _ _ h => .inr h)).trans (Frm.set (F := fun i => i = s + 1) _ rfl) (fun _ _ h => .inl h)
 have hgs : s + 3 ≤ g := by
  rcases hl with h | h
  · exact hgb g h
  omega
 have hbx : w4.heap[s + 1]? = some (.cells #[.int .i64 7, .int .i64 0, str [], .slice none 0 0, vl] 72 (0, 0)) := box_frm h2 f1 (fun e => by have := hgb _ e; omega)
 have g1 : ∀ i, (i = s + 1 ∨ vl.ownBlock = some i) → s + 1 ≤ i ∧ i ≠ s + 2 := fun i h => by
  rcases h with h | h
  · omega
  have := hgb _ h; omega
 refine ⟨⟨box_frm h1 f2 (fun e => by have := g1 _ e; omega), box_set hbx 4 _, ?_, RdM.snoc ?_ ?_⟩, f2.mono (fun i _ hi => by have := g1 _ hi; omega)⟩
 · rw [List.flatten_append, List.length_append]
   simp only [List.flatten_cons, List.flatten_nil, List.append_nil, List.length_singleton]
   exact owns_frm (F := fun i => i = s + 1) ho (Frm.set _ rfl) (fun k hk e => by simp [Value.ownBlock] at hk; omega)
 · refine RdJ.mono (F := fun i => B0 ≤ i ∧ i < W.heap.size) ?_ (fun i hi hF => ⟨by omega, hi, fun e => ?_⟩)
   · exact (hv.mono (G := fun i => B0 ≤ i ∧ i < W.heap.size) (fun i hi hF => ⟨hF, hi⟩)).frm f2 (fun i hi e => by
      rcases e with e | e
      · omega
      have := hvb i e; omega)
   simp only [Value.ownBlock, Option.some.injEq] at e
   subst e
   rcases hl with h | h
   · have := hvb _ h; omega
   omega
 have := h4.frm f2 (fun i hi e => by
  rcases e with e | e
  · omega
  exact hi.2.2 e)
 refine this.mono (fun i hi hF => ⟨hF.1, hi, fun e => ?_⟩)
 simp only [Value.ownBlock, Option.some.injEq] at e
 subst e
 rcases hl with h | h
 · exact hF.2.2 h
 omega
theorem JSt.next {w W W' : World} {b p o p' o' : Nat} {t : List UInt8} {G : Nat → Prop} (h : JSt w b t p o W) (hr : JRb W' b t p' o') (hf : Frm G W W') (hG : ∀ i, G i → i = b ∨ w.heap.size ≤ i) : JSt w b t p' o' W' :=
 ⟨hr, h.2.trans hf (fun i hi g => by rcases hG i g with e | e; exact e; omega)⟩
theorem frm3o {wr W1 w2 w3 : World} {b m : Nat} (h1 : Below wr.heap.size wr W1) (h2 : Frm (fun i => i = b ∨ i = m) W1 w2) (h3 : Frm (fun i => i = wr.heap.size) w2 w3) : Frm (fun i => i = b ∨ i = m ∨ i = wr.heap.size) wr w3 :=
 ((Frm.of_below (F := fun i => i = b ∨ i = m ∨ i = wr.heap.size) h1).trans h2 (fun _ _ h => by rcases h with h | h; exact .inl h; exact .inr (.inl h))).trans h3 (fun _ _ h => .inr (.inr h))
theorem srt_eq {d l : List MemT} (hp : d.Perm l) (hs : d.Pairwise (fun a b => Op.bytesLess b.1 a.1 = false)) (hn : (l.map (fun m => m.1)).Nodup) : d = srtM l := by
 have hinj : ∀ {l : List MemT}, (l.map (fun m => m.1)).Nodup → ∀ a ∈ l, ∀ b ∈ l, a.1 = b.1 → a = b := by
  intro l
  induction l with
  | nil => intro _ a ha; cases ha
  | cons x t ih =>
   intro h a ha b hb e
   rw [List.map_cons, List.nodup_cons] at h
   rcases List.mem_cons.1 ha with h1 | h1
   · rcases List.mem_cons.1 hb with h2 | h2
     · rw [h1, h2]
     exact (h.1 (List.mem_map.2 ⟨b, h2, by rw [← h1]; exact e.symm⟩)).elim
   rcases List.mem_cons.1 hb with h2 | h2
   · exact (h.1 (List.mem_map.2 ⟨a, h1, by rw [← h2]; exact e⟩)).elim
   exact ih h.2 a h1 b h2 e
 have h2 : (srtM l).Pairwise (fun a b => Op.bytesLess b.1 a.1 = false) := by
  have := List.pairwise_mergeSort (le := fun a b : MemT => !Op.bytesLess b.1 a.1) (fun a b c h1 h2 => by
   simp only [Bool.not_eq_true'] at h1 h2 ⊢
   cases h : Op.bytesLess c.1 a.1 with
   | false => rfl
   | true =>
    cases h3 : Op.bytesLess a.1 b.1 with
    | true => have := bl_tr _ _ _ h h3; rw [this] at h2; cases h2
    | false => have e := bl_tot _ _ h3 h1; rw [← e, h] at h2; cases h2) (fun a b => by
   cases h : Op.bytesLess b.1 a.1 with
   | false => rfl
   | true =>
    cases h2 : Op.bytesLess a.1 b.1 with
    | false => rfl
    | true => have := bl_tr _ _ _ h h2; rw [bl_irr] at this; cases this) l
  exact this.imp (fun h => by simpa using h)
 have hq : d.Perm (srtM l) := hp.trans (List.mergeSort_perm _ _).symm
 refine List.Perm.eq_of_pairwise (le := fun a b : MemT => Op.bytesLess b.1 a.1 = false) (fun a b ha hb h1 h2 => ?_) hs h2 hq
 exact hinj hn a (hp.mem_iff.1 ha) b ((hp.mem_iff.1 (hq.mem_iff.2 hb))) (bl_tot _ _ h2 h1)
def mesR (f : Nat → JR JV) (t : List UInt8) (p : Nat) : JR (List MemT) :=
 match entP t 125 p with
 | .err e => .err e
 | .ok true q => .ok [] q
 | .ok false q => mesP f t (t.length + 1) q []
def srtR : JR (List MemT) → JR (List MemT)
 | .err e => .err e
 | .ok l q => .ok (srtM l) q
theorem objP_eq (f : Nat → JR JV) (t : List UInt8) (p : Nat) : objP f t p = srtR (mesR f t p) := by
 unfold objP mesR
 cases h : entP t 125 p with
 | err e => rfl
 | ok d q =>
  cases d with
  | true => simp [srtR, srtM]
  | false =>
   dsimp only
   cases mesP f t (t.length + 1) q [] <;> rfl
theorem sorted_any {s : Nat} {acc : List MemT} {va : Option Addr} {vc : Nat} {rows : List (List Value)} {W : World} {t : List UInt8} (h : ObjP s acc (.slice va acc.length vc) rows W) (hal : acc.length ≤ t.length + 1) (hl : t.length ≤ 900000) :
 Calls Tryz.prog 125 #[.slice va acc.length vc, .func (.func 126) #[] #[]] W fun e W' => e = .returned (.tuple #[]) ∧ ∃ d : List MemT, d.Perm acc ∧ d.Pairwise (fun a b => Op.bytesLess b.1 a.1 = false) ∧ (∃ rd, RdFB (fun i => s < i) 6 W' (.slice va acc.length vc) rd ∧ RdM W' (fun i => s < i) d rd) ∧ Frm (fun i => s + 3 ≤ i) W W' := by
 obtain ⟨h1, h2, h3, h4⟩ := h
 by_cases h0 : acc.length = 0
 · have hc := AnyF.slices_SortFunc_none Tryz.sortJ va vc (.func (.func 126) #[] #[]) W
   rw [h0]
   refine Calls.mono (f := 125) hc ?_
   rintro e W' ⟨rfl, rfl⟩
   obtain rfl := List.eq_nil_of_length_eq_zero h0
   have hr : rows = [] := List.eq_nil_of_length_eq_zero (by have := (RdM.rows h4).1; simpa using this)
   subst hr
   refine ⟨rfl, [], List.Perm.nil, List.Pairwise.nil, ⟨[], ?_, by unfold RdM; trivial⟩, Frm.refl _ _⟩
   have := RdFB.of_row (F := fun i => s < i) (L := []) (by simp) h3 (fun k hk => by have := h3.lt k hk; omega)
   simpa using this
 obtain ⟨g, cap, hv, hg, hglt⟩ := h3.form (by omega)
 simp only [Value.slice.injEq] at hv
 obtain ⟨rfl, _, rfl⟩ := hv
 obtain ⟨d0, hd1, hd2, hd3⟩ := rdM_some h4
 have hlen : d0.length = acc.length := by rw [← hd1, List.length_map]
 have hc := jsort_any (s + 3) g vc d0 W (by rw [hd2, hlen]; exact h3) (by omega)
 rw [hlen] at hc
 refine hc.mono ?_
 rintro e W' ⟨rfl, d, hp, hs, hr, hf⟩
 refine ⟨rfl, d.map (fun x => x.m), by rw [← hd1]; exact hp.map _, by rw [List.pairwise_map]; exact hs, ⟨d.map encR, hr.mono (fun i _ hi => by omega) (fun r hr => by rw [encR_len d r hr]; omega), rdM_all (fun x hx => ?_)⟩, hf.mono (fun i _ hi => by omega)⟩
 exact ((hd3 x (hp.mem_iff.1 hx)).frm hf (fun i hi e => hi.2.2 (by rw [e]; rfl))).mono (fun i _ hi => by omega)
theorem objJ {s n : Nat} {d : List MemT} {va : Option Addr} {vc : Nat} {rd : List (List Value)} {W W' : World} (h1 : RdFB (fun i => s < i) 6 W (.slice va n vc) rd) (h2 : RdM W (fun i => s < i) d rd) (hf : Frm (fun i => i = s) W W') :
 RdJ W' (fun i => s ≤ i) (.mk 7 0 [] [] d) [.int .i64 7, .int .i64 0, str [], .slice none 0 0, .slice va n vc] := by
 obtain ⟨r1, r2⟩ := RdM.rows h2
 unfold RdJ
 refine ⟨_, _, rfl, ⟨[], RdFB.nil _ _ _, by unfold RdL; trivial⟩, rd, ?_, ?_⟩
 · exact (h1.frm hf (fun i hi e => by omega)).mono (fun i _ hi => by omega) (fun r hr => by rw [r2 r hr]; omega)
 exact (h2.frm hf (fun i hi e => by omega)).mono (fun i _ hi => by omega)
def ORel (t : List UInt8) (w : World) (b o : Nat) (f : Nat → JR JV) (R : JR (List MemT)) (n : Nat) (dn : Bool) (c : Nat) (W : World) : Prop :=
 (dn = false ∧ c = 0 ∧ ∃ q acc, q ≤ t.length ∧ t.length - q < n ∧ acc.length + n ≤ t.length + 1 ∧ mesP f t n q acc = R ∧ (acc.map (fun m => m.1)).Nodup ∧ JSt w b t q (o + 1) W ∧ ObjS w.heap.size acc W ∧ NamM W (w.heap.size + 2) (acc.map (fun m => m.1))) ∨
 (dn = true ∧ c = 0 ∧ n = 0 ∧ ∃ q acc, R = .ok acc q ∧ q ≤ t.length ∧ acc.length ≤ t.length + 1 ∧ (acc.map (fun m => m.1)).Nodup ∧ JSt w b t q o W ∧ ObjS w.heap.size acc W) ∨
 (c ≠ 0 ∧ n = 0 ∧ R = .err c ∧ ∃ q o' acc, acc.length ≤ t.length + 1 ∧ JSt w b t q o' W ∧ ObjS w.heap.size acc W)
theorem unqF_ge : ∀ (f : Nat) (t : List UInt8) (p : Nat) (o : List UInt8), (unqF f t p o).2.2 = 0 → p ≤ (unqF f t p o).2.1
 | 0, t, p, o, h => by simp [unqF] at h
 | f + 1, t, p, o, h => by
   rw [unqF] at h ⊢
   split at h
   · next h1 => exact absurd h h1
   next h1 =>
   rw [if_neg h1]
   split at h
   · next h2 => rw [if_pos h2]; dsimp only; omega
   next h2 =>
   rw [if_neg h2]
   have := unqF_ge f t _ _ h
   omega
theorem txtP_ge {t : List UInt8} {p : Nat} {s : List UInt8} {q : Nat} (h : txtP t p = .ok s q) : p < q := by
 unfold txtP at h
 split at h
 · cases h
 next h0 =>
 split at h
 · cases h
 simp only [JR.ok.injEq] at h
 obtain ⟨_, rfl⟩ := h
 have h0 : (unqR t (p : Int)).2.2 = 0 := by simpa using h0
 unfold unqR at h0 ⊢
 split at h0
 · cases h0
 next h1 =>
 rw [if_neg h1]
 split at h0
 · next h2 => exact absurd h0 h2
 next h2 =>
 rw [if_neg h2]
 have := unqF_ge _ _ _ _ h0
 simp only [Int.toNat_natCast] at this ⊢
 omega
theorem memP_new {f : Nat → JR JV} {t : List UInt8} {ns : List (List UInt8)} {p : Nat} {m : MemT} {q : Nat} (h : memP f t ns p = .ok m q) : m.1 ∉ ns ∧ ∃ p1 v, f p1 = .ok v q ∧ p ≤ p1 := by
 unfold memP at h
 split at h
 · cases h
 split at h
 · cases h
 next name q0 hx =>
 split at h
 · cases h
 next hn =>
 split at h
 · cases h
 split at h
 · cases h
 split at h
 · cases h
 next v r hv =>
 cases h
 refine ⟨hn, _, v, hv, ?_⟩
 have h1 := skp_ge t p
 have h2 := skp_ge t q0
 have h3 : skp t p < q0 := txtP_ge hx
 omega
set_option maxRecDepth 100000 in
set_option maxHeartbeats 8000000 in
theorem object_any (t : List UInt8) (b p o : Nat) (w : World) (f : Nat → JR JV) (CV : ∀ W q, JRb W b t q (o + 1) → q ≤ t.length → Calls Tryz.prog 73 #[.pointer (some ⟨b, 0, none⟩)] W (ValJ t W b (o + 1) (f q)))
 (hf : ∀ q v q1, f q = .ok v q1 → q ≤ q1) (h : JRb w b t p o) (hp : p < t.length) (hl : t.length ≤ 900000) (ho : o ≤ 1000) :
 Calls Tryz.prog 98 #[.pointer (some ⟨b, 0, none⟩)] w (ValJ t w b o (objV (objP f t p))) := by
 rw [objP_eq]
 have hb := h.lt
 have CM : Hid (∀ W q ns, JRb W b t q (o + 1) → q ≤ t.length → NamM W (w.heap.size + 2) ns → ns.length ≤ 1000000 → Calls Tryz.prog 124 #[.pointer (some ⟨b, 0, none⟩), .map (some (w.heap.size + 2))] W (MemJ t W b (w.heap.size + 2) (o + 1) ns (memP f t ns q))) := Lib.hid (fun W q ns h1 h2 h3 h4 => member_any t b _ q (o + 1) ns W f CV h1 h3 (by omega) h4 h2 (by omega))
 clear CV
 have hmm := @run_makeMap Tryz.prog
 obtain ⟨R, hR⟩ : ∃ R, R = mesR f t p := ⟨_, rfl⟩
 rw [← hR]
 obtain ⟨Wa, hWa⟩ : ∃ Wa, Wa = ((w.alloc (.cells #[.int .i64 0, .int .i64 0, .string ⟨#[]⟩, .slice none 0 0, .slice none 0 0] 72)).alloc (.cells #[.int .i64 7, .int .i64 0, .string ⟨#[]⟩, .slice none 0 0, .slice none 0 0] 72)).alloc (.map #[] 0) := ⟨_, rfl⟩
 have hba : Below w.heap.size w Wa := by rw [hWa]; exact (((Below.refl _ w).alloc (Nat.le_refl _) _).alloc (by simp) _).alloc (by simp; omega) _
 have ha : JRb Wa b t p o := h.below hba
 have hLs : ObjS w.heap.size [] Wa := by
  refine ⟨.slice none 0 0, [], ?_, ?_, World.ownsRow_nil _ _ _ _, by unfold RdM; trivial⟩
  · rw [hWa]
    exact box_up (box_up (heap_alloc_new w _) (below_alloc _ _)) (below_alloc _ _)
  rw [hWa]
  have := heap_alloc_new (w.alloc (.cells #[.int .i64 0, .int .i64 0, .string ⟨#[]⟩, .slice none 0 0, .slice none 0 0] 72)) (.cells #[.int .i64 7, .int .i64 0, .string ⟨#[]⟩, .slice none 0 0, .slice none 0 0] 72)
  refine box_up ?_ (below_alloc _ _)
  simpa using this
 have hNm : NamM Wa (w.heap.size + 2) [] := by
  rw [hWa]
  have := NamM.made ((w.alloc (.cells #[.int .i64 0, .int .i64 0, .string ⟨#[]⟩, .slice none 0 0, .slice none 0 0] 72)).alloc (.cells #[.int .i64 7, .int .i64 0, .string ⟨#[]⟩, .slice none 0 0, .slice none 0 0] 72))
  simpa using this
 have CE : Hid (Calls Tryz.prog 122 #[.pointer (some ⟨b, 0, none⟩), .int .u8 125] Wa fun e w1 => ∃ (dn : Bool) (c n : Nat), e = .returned (.tuple #[.bool dn, .int .i64 (c : Int)]) ∧ Hid (ORel t w b o f R n dn c w1)) := Lib.hid ((enter_any t b p o 125 Wa ha hp (by omega) ho).mono (by
  intro e w1 h1
  have gr : ∀ {q o' : Nat}, JSt Wa b t q o' w1 → JSt w b t q o' w1 ∧ ObjS w.heap.size [] w1 ∧ NamM w1 (w.heap.size + 2) [] := fun {q o'} k => ⟨(JSt.below (JSt.refl h) hba).trans ⟨k.1, k.2⟩, hLs.frm k.2 (fun i hi _ _ e => by omega), hNm.frm k.2 (by omega)⟩
  unfold mesR at hR
  cases hx : entP t 125 p with
  | err c =>
   rw [hx] at h1 hR
   obtain ⟨rfl, hc, q, o', hs⟩ := h1
   obtain ⟨g1, g2, g3⟩ := gr hs
   exact ⟨false, c, 0, rfl, Lib.hid (.inr (.inr ⟨hc, rfl, hR, q, o', [], by simp, g1, g2⟩))⟩
  | ok dn q =>
   rw [hx] at h1 hR
   cases dn with
   | true =>
    obtain ⟨rfl, hs, hq⟩ := h1
    obtain ⟨g1, g2, g3⟩ := gr hs
    exact ⟨true, 0, 0, rfl, Lib.hid (.inr (.inl ⟨rfl, rfl, rfl, q, [], hR, hq, by simp, by simp, g1, g2⟩))⟩
   | false =>
    obtain ⟨rfl, hs, hq⟩ := h1
    obtain ⟨g1, g2, g3⟩ := gr hs
    exact ⟨false, 0, t.length + 1, rfl, Lib.hid (.inl ⟨rfl, rfl, q, [], hq, by omega, by simp, hR.symm, by simp, g1, g2, by simpa using g3⟩)⟩))
 clear hR hLs ha hba hNm
 go_enter Tryz.func98, Tryz.ntmps98
 go_wp2_with fail
 rw [← hWa]
 refine CE.out.mono ?_
 rintro e w1 ⟨dn, c, n, rfl, HL⟩
 clear CE hWa
 go_wp2_with fail
 go_loopg [6, 7, 8] n (fun gk v5 v6 v7 wr => ∃ (dn : Bool) (c : Nat), v5 = .bool dn ∧ v6 = .int .i64 (c : Int) ∧ Hid (ORel t w b o f R gk dn c wr))
 case atStart => exact ⟨dn, c, rfl, rfl, HL⟩
 case round =>
  obtain ⟨dn, c, rfl, rfl, HL⟩ := hrel
  rcases HL.out with ⟨rfl, rfl, q, acc, hq, hn, hacc, hR, hnd, hs, hls, hnm⟩ | ⟨rfl, rfl, hn, q, acc, hR, hq, hal, hnd, hs, hls⟩ | ⟨hc, hn, hR, q, o', acc, hal, hs, hls⟩
  · have HQ := Lib.hid (And.intro hq (And.intro hn (And.intro hacc (And.intro hR hnd))))
    obtain ⟨W1, hW1⟩ : ∃ W1, W1 = wr.alloc (.cells #[.string ⟨#[]⟩, .int .i64 0, .int .i64 0, .string ⟨#[]⟩, .slice none 0 0, .slice none 0 0] 74) := ⟨_, rfl⟩
    have hb1 : Below wr.heap.size wr W1 := by rw [hW1]; exact below_alloc _ _
    have hbx : W1.heap[wr.heap.size]? = some (.cells #[str [], .int .i64 0, .int .i64 0, str [], .slice none 0 0, .slice none 0 0] 74 (0, 0)) := by rw [hW1]; exact heap_alloc_new wr _
    obtain ⟨vl, rows, hlp⟩ := hls
    have HS1 := Lib.hid (And.intro (hs.below hb1) (And.intro hlp (And.intro hbx hb1)))
    have HZ : Hid (w.heap.size + 3 ≤ wr.heap.size ∧ W1.heap.size = wr.heap.size + 1 ∧ ∀ k, vl.ownBlock = some k → k < wr.heap.size) := Lib.hid ⟨by have := hnm.lt; omega, by rw [hW1]; simp, hlp.sz.2⟩
    have CV1 := Lib.hid (CM.out W1 q (acc.map (fun m => m.1)) HS1.out.1.1 hq (hnm.up hb1) (by rw [List.length_map]; omega))
    clear hq hn hacc hR hs hlp hb1 hbx HL hnd hnm
    go_wp2_with fail
    rw [← hW1]
    clear hW1
    cases hx : memP f t (acc.map (fun m => m.1)) q with
    | err c =>
     rw [hx] at CV1
     refine CV1.out.mono ?_
     rintro e w2 ⟨⟨nm, v⟩, cs, rfl, hc, hv, hf2, q', o', hj2⟩
     obtain ⟨al, ll, cl, am, lm, cm, rfl, _, _⟩ := hv.open
     have hbx2 := box_frm HS1.out.2.2.1 hf2 (by have := HZ.out.1; omega)
     have hb0 := box_cell hbx2 0
     have hb1 := box_cell hbx2 1
     have hb2 := box_cell hbx2 2
     have hb3 := box_cell hbx2 3
     have hb4 := box_cell hbx2 4
     have hb5 := box_cell hbx2 5
     have hfz := box_fr hbx2
     have H2 := Lib.hid (And.intro hj2 (And.intro hbx2 (And.intro hc hf2)))
     clear hbx2 hv hc CV1 hf2 hj2
     dsimp only
     go_upto_region 7 with fail
     refine wp_any_world (fun W => W.heap[wr.heap.size]? = some (.cells #[str nm, .int .i64 v.kind, .int .i64 v.n, str v.s, .slice al ll cl, .slice am lm cm] 74 (0, 0)) ∧ Frm (fun i => i = wr.heap.size) w2 W) (six_set H2.out.2.1 _ _ _ _ _ _) ?_
     clear hb0 hb1 hb2 hb3 hb4 hb5 hfz
     rintro w3 ⟨hb3, hf3⟩
     have HX : Hid (ORel t w b o f R 0 false c w3) := Lib.hid (.inr (.inr ⟨H2.out.2.2.1, rfl, by
      obtain ⟨hq, hn, hacc, hR, hnd⟩ := HQ.out
      obtain ⟨m, rfl⟩ : ∃ m, gk = m + 1 := ⟨gk - 1, by omega⟩
      rw [← hR, mesP, hx], q', o', acc, by have := HQ.out.2.2.1; omega, (HS1.out.1.next (H2.out.1) H2.out.2.2.2 (fun i e => by have := HZ.out.1; omega)).grow hf3 (fun i e => by have := HZ.out.1; omega), ⟨vl, rows, HS1.out.2.1.frm (frm3o HS1.out.2.2.2 H2.out.2.2.2 hf3) (fun i h1 h2 h3 e => by omega)⟩⟩))
     have hc0 : ((c : Int) == 0) = false := by rw [beq_eq_false_iff_ne]; have := H2.out.2.2.1; omega
     have HN : Hid (0 < gk) := Lib.hid (by have := HQ.out; omega)
     clear hb3 hf3 H2 HS1 HZ HQ
     go_wp2_with fail
     go_roundg 0
     case measure => exact HN.out
     case rel => exact ⟨false, c, rfl, rfl, HX⟩
    | ok mm q1 =>
     rw [hx] at CV1
     refine CV1.out.mono ?_
     rintro e w2 ⟨cs, rfl, hv, hf2, hj2, hq1, hnm2⟩
     obtain ⟨nm, v⟩ := mm
     dsimp only at hv hnm2
     have HVO := Lib.hid hv
     obtain ⟨al, ll, cl, am, lm, cm, rfl, _, _⟩ := hv.open
     have hbx2 := box_frm HS1.out.2.2.1 hf2 (by have := HZ.out.1; omega)
     have hb0 := box_cell hbx2 0
     have hb1 := box_cell hbx2 1
     have hb2 := box_cell hbx2 2
     have hb3 := box_cell hbx2 3
     have hb4 := box_cell hbx2 4
     have hb5 := box_cell hbx2 5
     have hfz := box_fr hbx2
     have H2 := Lib.hid (And.intro hj2 (And.intro hbx2 (And.intro hq1 (And.intro hf2 hnm2))))
     clear hbx2 hv hq1 CV1 hf2 hj2 hnm2
     go_upto_region 7 with fail
     refine wp_any_world (fun W => W.heap[wr.heap.size]? = some (.cells #[str nm, .int .i64 v.kind, .int .i64 v.n, str v.s, .slice al ll cl, .slice am lm cm] 74 (0, 0)) ∧ Frm (fun i => i = wr.heap.size) w2 W) (six_set H2.out.2.1 _ _ _ _ _ _) ?_
     clear hb0 hb1 hb2 hb3 hb4 hb5 hfz
     rintro w3 ⟨hb3, hf3⟩
     have hp0 := box_cell hb3 0
     have hp1 := box_cell hb3 1
     have hp2 := box_cell hb3 2
     have hp3 := box_cell hb3 3
     have hp4 := box_cell hb3 4
     have hp5 := box_cell hb3 5
     have HLP := Lib.hid (HS1.out.2.1.frm (frm3o HS1.out.2.2.2 H2.out.2.2.2.1 hf3) (fun i h1 h2 h3 e => by omega))
     have HJ := Lib.hid ((HS1.out.1.next H2.out.1 H2.out.2.2.2.1 (fun i e => by have := HZ.out.1; omega)).grow hf3 (fun i e => by have := HZ.out.1; omega))
     have HV3 : Hid (RdJ w3 (fun i => W1.heap.size ≤ i) v [.int .i64 v.kind, .int .i64 v.n, str v.s, .slice al ll cl, .slice am lm cm]) := Lib.hid (HVO.out.frm hf3 (fun i hi e => by have := HZ.out.2.1; omega))
     have HNM := Lib.hid (H2.out.2.2.2.2.frm hf3 (by have := HZ.out.1; omega))
     have hl3 := box_cell HLP.out.2.1 4
     have hlf := box_fr HLP.out.2.1
     clear hb3 hf3 HVO
     obtain ⟨i0, hi, hz0, hz1, hz2⟩ := info_parts infoM
     go_wp2_with (at_builtin; refine hold ?_)
     intro _
     have hacc : acc.length ≤ 1000000 := by have := HQ.out; omega
     have hB : w.heap.size + 3 ≤ w3.heap.size := by have := HNM.out.lt; omega
     refine wpList_append_lies _ (by rfl) _ _ 70 (by rfl) (w.heap.size + 3) 74 i0 _ 6 96 Tryz.underlying70 hi hz0 hz1 hz2 rfl (by decide) vl acc.length rows.flatten (by rfl) (owns_frm (F := fun _ => False) HLP.out.2.2.1 (Frm.of_below (below_alloc w3 _)) (fun _ _ h => h)) ⟨w3.heap.size, 0, none⟩ 1 1 [str nm, .int .i64 v.kind, .int .i64 v.n, str v.s, .slice al ll cl, .slice am lm cm] (by rfl) (by rfl) (World.news_of_block (heap_alloc_new w3 _)) (by simp [Value.oneCell']) (by decide) (by simp only [maxLen]; omega) (by omega) (by simp; omega) _ rfl ?_
     intro g cap w4 ho hg hl4 _
     have hadd := HLP.out.add (nm := nm) (v := v) (B0 := W1.heap.size) (by have := HZ.out; omega) (fun k hk => by have := HZ.out.2.2 k hk; have := HZ.out.2.1; omega) HV3.out ho hg (by simpa using hl4)
     have HA := Lib.hid hadd
     have HNM4 : Hid (NamM (w4.setCell ⟨w.heap.size + 1, 4, none⟩ (.slice (some ⟨g, 0, none⟩) (acc.length + 1) cap)) (w.heap.size + 2) (acc.map (fun m => m.1) ++ [nm])) := Lib.hid (HNM.out.frm hadd.2 (by omega))
     have hx3 : w4.cell? ⟨w.heap.size + 1, 4, none⟩ = some vl := by
      have := hg.cell_far ⟨w.heap.size + 1, 4, none⟩ (by simp; omega) (fun e => by have := HLP.out.2.2.1.lt _ e.symm; dsimp only at this; omega)
      rw [this]
      have h2 := (below_alloc w3 (.cells #[.string ⟨nm.toArray⟩, .int .i64 v.kind, .int .i64 v.n, .string ⟨v.s.toArray⟩, .slice al ll cl, .slice am lm cm] 74)).cell (p := ⟨w.heap.size + 1, 4, none⟩) (by show w.heap.size + 1 < _; omega)
      exact h2.trans hl3
     have hxf : w4.frozen? ⟨w.heap.size + 1, 4, none⟩ = false := by
      refine box_fr (cs := #[.int .i64 7, .int .i64 0, str [], .slice none 0 0, vl]) (T := 72) ?_ 4
      rw [hg.block _ (by simp; omega) (fun e => by have := HLP.out.2.2.1.lt _ e.symm; omega)]
      exact box_up HLP.out.2.1 (below_alloc w3 _)
     clear hadd ho hg hl4 hi hz0 hz1 hz2 hp0 hp1 hp2 hp3 hp4 hp5 hl3 hlf
     go_upto_region 9 with fail
     refine wp_any_world (fun W => (ObjP w.heap.size (acc ++ [(nm, v)]) (.slice (some ⟨g, 0, none⟩) (acc.length + 1) cap) (rows ++ [str nm :: [.int .i64 v.kind, .int .i64 v.n, str v.s, .slice al ll cl, .slice am lm cm]]) W ∧ Frm (fun i => w.heap.size ≤ i ∧ i ≠ w.heap.size + 2) w3 W) ∧ NamM W (w.heap.size + 2) (acc.map (fun m => m.1) ++ [nm])) ⟨HA.out, HNM4.out⟩ ?_
     clear hx3 hxf HA HNM4
     rintro w5 ⟨⟨h5, hf5⟩, hnm5⟩
     have H5 : Hid (JSt w b t q1 (o + 1) w5 ∧ ObjS w.heap.size (acc ++ [(nm, v)]) w5 ∧ NamM w5 (w.heap.size + 2) ((acc ++ [(nm, v)]).map (fun m => m.1))) := Lib.hid ⟨JSt.grow HJ.out hf5 (fun i e => by omega), ⟨_, _, h5⟩, by simpa using hnm5⟩
     have CB := Lib.hid (behind_any t b q1 o 125 w5 H5.out.1.1 H2.out.2.2.1 (by omega) ho)
     have HQ2 : Hid (∃ m, gk = m + 1 ∧ (acc ++ [(nm, v)]).length + m ≤ t.length + 1 ∧ (match behP t 125 q1 with | .err e => .err e | .ok true r => .ok (acc ++ [(nm, v)]) r | .ok false r => mesP f t m r (acc ++ [(nm, v)])) = R ∧ t.length - q < m + 1 ∧ q ≤ q1 ∧ ((acc ++ [(nm, v)]).map (fun m => m.1)).Nodup) := Lib.hid (by
      obtain ⟨hq, hn, hacc, hR, hnd⟩ := HQ.out
      obtain ⟨m, rfl⟩ : ∃ m, gk = m + 1 := ⟨gk - 1, by omega⟩
      obtain ⟨hnew, p1, v1, hf1, hp1⟩ := memP_new hx
      refine ⟨m, rfl, by simp; omega, ?_, hn, ?_, ?_⟩
      · rw [mesP, hx] at hR
        dsimp only at hR
        rw [← hR]
        cases behP t 125 q1 with
        | err e => rfl
        | ok d r => cases d <;> rfl
      · have := hf _ _ _ hf1
        omega
      rw [List.map_append, List.nodup_append]
      refine ⟨hnd, by simp, ?_⟩
      intro a ha b hb e
      simp only [List.map_cons, List.map_nil, List.mem_singleton] at hb
      subst hb e
      exact hnew ha)
     clear h5 hf5 HQ HLP HJ HV3 H2 HZ HS1 hnm5 HNM
     go_wp2_with fail
     refine CB.out.mono ?_
     intro e w6 h6
     have key : ∃ (dn' : Bool) (c' n' : Nat), e = .returned (.tuple #[.bool dn', .int .i64 (c' : Int)]) ∧ n' < gk ∧ Hid (ORel t w b o f R n' dn' c' w6) := by
      obtain ⟨m, hm, hlen, hR, hn, hqq, hnd⟩ := HQ2.out
      have gr : ∀ {q o' : Nat}, JSt w5 b t q o' w6 → JSt w b t q o' w6 ∧ ObjS w.heap.size (acc ++ [(nm, v)]) w6 ∧ NamM w6 (w.heap.size + 2) ((acc ++ [(nm, v)]).map (fun m => m.1)) := fun {q o'} k => ⟨H5.out.1.trans k, ObjS.frm H5.out.2.1 k.2 (fun i hi _ _ e => by omega), H5.out.2.2.frm k.2 (by omega)⟩
      cases hx2 : behP t 125 q1 with
      | err c =>
       rw [hx2] at h6 hR
       obtain ⟨rfl, hc, q', o', hs⟩ := h6
       obtain ⟨g1, g2, g3⟩ := gr hs
       exact ⟨false, c, 0, rfl, by omega, Lib.hid (.inr (.inr ⟨hc, rfl, hR.symm, q', o', _, by omega, g1, g2⟩))⟩
      | ok d r =>
       have hlt := behP_lt hx2
       rw [hx2] at h6 hR
       cases d with
       | true =>
        obtain ⟨rfl, hs, hr⟩ := h6
        obtain ⟨g1, g2, g3⟩ := gr hs
        exact ⟨true, 0, 0, rfl, by omega, Lib.hid (.inr (.inl ⟨rfl, rfl, rfl, r, _, hR.symm, hr, by omega, hnd, g1, g2⟩))⟩
       | false =>
        obtain ⟨rfl, hs, hr⟩ := h6
        obtain ⟨g1, g2, g3⟩ := gr hs
        exact ⟨false, 0, m, rfl, by omega, Lib.hid (.inl ⟨rfl, rfl, r, _, hr, by omega, hlen, hR, hnd, g1, g2, g3⟩)⟩
     obtain ⟨dn', c', n', rfl, hlt, HL'⟩ := key
     have HLT := Lib.hid hlt
     clear h6 hlt HQ2 H5 CB
     go_wp2_with fail
     go_roundg n'
     case measure => exact HLT.out
     case rel => exact ⟨dn', c', rfl, rfl, HL'⟩
  · have HH := Lib.hid (And.intro hR (And.intro hq (And.intro hs hnd)))
    obtain ⟨vl, rows, hlp⟩ := hls
    obtain ⟨va, vc, rfl⟩ := own_slice hlp.2.2.1
    have CS := Lib.hid (sorted_any hlp hal hl)
    have e4 := box_cell hlp.2.1 4
    have HP := Lib.hid hlp
    clear hlp hR hq hs hn HL hnd hal
    go_wp2_with fail
    refine CS.out.mono ?_
    rintro e w2 ⟨rfl, d, hp, hsr, ⟨rd, hrd, hrm⟩, hf2⟩
    have b0 := box_frm HP.out.1 hf2 (by omega)
    have b1 := box_frm HP.out.2.1 hf2 (by omega)
    have e0 := box_cell b1 0
    have e1 := box_cell b1 1
    have e2 := box_cell b1 2
    have e3 := box_cell b1 3
    have e4' := box_cell b1 4
    obtain ⟨d0, d1, d2, d3, d4⟩ := box5 b0
    have df := box_fr b0
    have H2 := Lib.hid (And.intro b0 (And.intro hp (And.intro hsr (And.intro hrd (And.intro hrm hf2)))))
    clear b0 b1 hp hsr hrd hrm hf2 CS e4
    go_wp2_with fail
    refine bodyPost_any_world (fun W => W.heap[w.heap.size]? = some (.cells #[.int .i64 7, .int .i64 0, str [], .slice none 0 0, .slice va acc.length vc] 72 (0, 0)) ∧ Frm (fun i => i = w.heap.size) w2 W) (five_set H2.out.1 _ _ _ _ _) ?_
    clear e0 e1 e2 e3 e4' d0 d1 d2 d3 d4 df
    rintro w9 ⟨h9, hf9⟩
    obtain ⟨k0, k1, k2, k3, k4⟩ := box5 h9
    refine bodyPost_ret (v := .tuple #[.agg #[.int .i64 7, .int .i64 0, str [], .slice none 0 0, .slice va acc.length vc], .int .i64 0]) (by simp [results, Tryz.results98, go_sem, k0, k1, k2, k3, k4]) rfl ?_
    obtain ⟨_, hp, hsr, hrd, hrm, hf2⟩ := H2.out
    rw [HH.out.1]
    obtain rfl := srt_eq hp hsr HH.out.2.2.2
    exact ⟨[.int .i64 7, .int .i64 0, str [], .slice none 0 0, .slice va acc.length vc], rfl, objJ hrd hrm hf9, JSt.grow (JSt.grow HH.out.2.2.1 hf2 (fun i e => by omega)) hf9 (fun i e => by omega), HH.out.2.1⟩
  have HH := Lib.hid (And.intro hR (And.intro hs hc))
  obtain ⟨vl, rows, hlp⟩ := hls
  obtain ⟨va, vc, rfl⟩ := own_slice hlp.2.2.1
  have CS := Lib.hid (sorted_any hlp hal hl)
  have e4 := box_cell hlp.2.1 4
  have HP := Lib.hid hlp
  have hc0 : ((c : Int) == 0) = false := by rw [beq_eq_false_iff_ne]; omega
  clear hlp hR hs hn HL hal hc
  go_wp2_with fail
  refine CS.out.mono ?_
  rintro e w2 ⟨rfl, d, hp, hsr, ⟨rd, hrd, hrm⟩, hf2⟩
  have b0 := box_frm HP.out.1 hf2 (by omega)
  have b1 := box_frm HP.out.2.1 hf2 (by omega)
  have e0 := box_cell b1 0
  have e1 := box_cell b1 1
  have e2 := box_cell b1 2
  have e3 := box_cell b1 3
  have e4' := box_cell b1 4
  obtain ⟨d0, d1, d2, d3, d4⟩ := box5 b0
  have df := box_fr b0
  have H2 := Lib.hid (And.intro b0 (And.intro hp (And.intro hsr (And.intro hrd (And.intro hrm hf2)))))
  clear b0 b1 hp hsr hrd hrm hf2 CS e4
  go_wp2_with fail
  refine bodyPost_any_world (fun W => W.heap[w.heap.size]? = some (.cells #[.int .i64 7, .int .i64 0, str [], .slice none 0 0, .slice va acc.length vc] 72 (0, 0)) ∧ Frm (fun i => i = w.heap.size) w2 W) (five_set H2.out.1 _ _ _ _ _) ?_
  clear e0 e1 e2 e3 e4' d0 d1 d2 d3 d4 df
  rintro w9 ⟨h9, hf9⟩
  obtain ⟨k0, k1, k2, k3, k4⟩ := box5 h9
  refine bodyPost_ret (v := .tuple #[.agg #[.int .i64 7, .int .i64 0, str [], .slice none 0 0, .slice va acc.length vc], .int .i64 (c : Int)]) (by simp [results, Tryz.results98, go_sem, k0, k1, k2, k3, k4]) rfl ?_
  obtain ⟨_, hp, hsr, hrd, hrm, hf2⟩ := H2.out
  rw [HH.out.1]
  exact ⟨.mk 7 0 [] [] d, [.int .i64 7, .int .i64 0, str [], .slice none 0 0, .slice va acc.length vc], rfl, HH.out.2.2, objJ hrd hrm hf9, q, o', JSt.grow (JSt.grow HH.out.2.1 hf2 (fun i e => by omega)) hf9 (fun i e => by omega)⟩
end Go.Proofs.YtegblhmcfemfgaaGreatDoor
