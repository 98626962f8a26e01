/- JSON: member. -/
import Derived.Test.YtegblhmcfemfgaaGreatDoorJVal
import Derived.Maps.Own
import Derived.Maps.OwnOps
import Derived.Maps.Views
namespace Go.Proofs.YtegblhmcfemfgaaGreatDoor
open Go.RowKit Go.Maps

theorem lawS : Keyed Tryz.prog 9 := string_keyed Tryz.underlying9
/-- A map of names, each told once. -/
def NamM (W : World) (mb : Nat) (ns : List (List UInt8)) : Prop :=
  ∃ (n : Nat) (D : DataW Unit), W.ownsMap Tryz.prog 9 (plainElem Tryz.prog 3) mb n D ∧ n ≤ ns.length ∧ IsMap D ∧ ∀ k : List UInt8, D.atKey (.string k) (.lit (.int .i64 0)) = .lit (.int .i64 (if k ∈ ns then 1 else 0))
theorem NamM.made (w : World) : NamM (w.alloc (.map #[] 0)) w.heap.size [] := ⟨0, .map [], World.ownsMap_made _ _ _ _, Nat.le_refl _, isMap_empty, fun k => by simp [DataW.atKey]⟩
theorem NamM.frm {W W' : World} {mb : Nat} {ns : List (List UInt8)} {G : Nat → Prop} (h : NamM W mb ns) (hf : Frm G W W') (hn : ¬ G mb) : NamM W' mb ns := by
  obtain ⟨n, D, ⟨es, clock, hb, rest⟩, h2⟩ := h
  exact ⟨n, D, ⟨es, clock, box_frm hb hf hn, rest⟩, h2⟩
theorem NamM.up {W W' : World} {mb : Nat} {ns : List (List UInt8)} (h : NamM W mb ns) (hb : Below W.heap.size W W') : NamM W' mb ns := h.frm (Frm.of_below (F := fun _ => False) hb) (fun h => h)
theorem NamM.lt {W : World} {mb : Nat} {ns : List (List UInt8)} (h : NamM W mb ns) : mb < W.heap.size := by
  obtain ⟨n, D, h1, _⟩ := h
  exact h1.lt
theorem NamM.put {n : Nat} {ns : List (List UInt8)} {D : DataW Unit} {name : List UInt8} {mb : Nat} {W : World} (h : W.ownsMap Tryz.prog 9 (plainElem Tryz.prog 3) mb (n + 1) (D.put (.string name) (.lit (.int .i64 1)))) (hn : n ≤ ns.length) (hm : IsMap D)
    (hat : ∀ k : List UInt8, D.atKey (.string k) (.lit (.int .i64 0)) = .lit (.int .i64 (if k ∈ ns then 1 else 0))) : NamM W mb (ns ++ [name]) := by
  refine ⟨n + 1, _, h, by simp; omega, hm.put _ _, fun k => ?_⟩
  by_cases e : k = name
  · subst e
    rw [atKey_put_same hm (by simp [WideAt.IsKeyLit])]
    simp
  · rw [atKey_put_other (fun h => e (by injection h)), hat]
    simp [e]
theorem infoM : (Tryz.prog.info? 74).map (fun i => (i.zero, i.size, i.bytes)) = some (some (.agg #[str [], .int .i64 0, .int .i64 0, str [], .slice none 0 0, .slice none 0 0]), 6, 96) := by kernel_rfl
/-- What member tells. -/
def MemJ (t : List UInt8) (w : World) (b mb o : Nat) (ns : List (List UInt8)) (r : JR MemT) (e : Ending) (w' : World) : Prop :=
  match r with
  | .err c => ∃ (m : MemT) (cs : List Value), e = .returned (.tuple #[.agg (str m.1 :: cs).toArray, .int .i64 (c : Int)]) ∧ c ≠ 0 ∧ RdJ w' (fun i => w.heap.size ≤ i) m.2 cs ∧ Frm (fun i => i = b ∨ i = mb) w w' ∧ ∃ q o', JRb w' b t q o'
  | .ok m q => ∃ cs, e = .returned (.tuple #[.agg (str m.1 :: cs).toArray, .int .i64 0]) ∧ RdJ w' (fun i => w.heap.size ≤ i) m.2 cs ∧ Frm (fun i => i = b ∨ i = mb) w w' ∧ JRb w' b t q o ∧ q ≤ t.length ∧ NamM w' mb (ns ++ [m.1])
theorem zeroJ (W : World) (F : Nat → Prop) : RdJ W F (.mk 0 0 [] [] []) [.int .i64 0, .int .i64 0, str [], .slice none 0 0, .slice none 0 0] := by
  unfold RdJ
  exact ⟨_, _, rfl, ⟨[], RdFB.nil _ _ _, by unfold RdL; trivial⟩, [], RdFB.nil _ _ _, by unfold RdM; trivial⟩
end Go.Proofs.YtegblhmcfemfgaaGreatDoor
