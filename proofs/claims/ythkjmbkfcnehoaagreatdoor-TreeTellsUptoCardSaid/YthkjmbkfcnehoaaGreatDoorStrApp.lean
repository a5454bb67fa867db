/- append(b, s...): a text's bytes behind one's own. -/
import Derived.Test.YthkjmbkfcnehoaaGreatDoorHelp0
import Derived.Lib.AppendStr
namespace Go.Proofs.YthkjmbkfcnehoaaGreatDoor
open Go.RowKit
set_option maxHeartbeats 400000
set_option linter.unusedVariables false

theorem run_append_str (w : World) (base : Nat) (ty : TypeId) (v : Value) (n : Nat) (l : List UInt8) (hown : w.ownsRow base 5 1 v n (u8s l)) (s : ByteArray) (hb : n + s.size ≤ 140737488355328) (hbase : base ≤ w.heap.size) :
    ∃ v' w', (Builtin.append_ #[64, 9] ty #[v, .string s]).run Tryz.prog w = .ok v' w' ∧ w'.ownsRow base 5 1 v' (n + s.size) (u8s (l ++ s.data.toList)) ∧ w.grownBy w' v.ownBlock ∧
      (v'.ownBlock = v.ownBlock ∨ v'.ownBlock = some w.heap.size) := by
  obtain ⟨i, hi, hz, h1, h2⟩ := info_parts info_u8
  have hmx : n + s.size ≤ maxLen := by simp only [maxLen]; omega
  obtain ⟨v', w', hr, ho, hg, hn⟩ := Lib.run_append_own_string (P := Tryz.prog) w base 64 9 ty 5 i Tryz.underlying64 Tryz.underlying9 hi hz h1 h2 v n (u8s l) hown s hmx hb hbase
  refine ⟨v', w', hr, by rw [u8s_append]; exact ho, hg, ?_⟩
  rcases hown.2 with ⟨rfl, rfl⟩ | ⟨g, cap, cur, rfl, hbg, hgg, hnc, hcm, hcs, htake⟩
  · by_cases hs : s.size = 0
    · exact .inl (by rw [hn.2 ⟨rfl, hs⟩])
    · have hr2 := run_append_nil_string (P := Tryz.prog) w 64 9 ty 5 i (.int .u8 0) Tryz.underlying64 Tryz.underlying9 hi hz s (by omega) (by omega) (by rw [h2]; omega)
      rw [hr2] at hr
      injection hr with hr _
      exact .inr (by rw [← hr]; rfl)
  · by_cases hroom : n + s.size ≤ cap
    · have hr2 := Lib.run_append_room_string (P := Tryz.prog) w 64 9 ty 5 i Tryz.underlying64 Tryz.underlying9 hi h1 g n cap cur hgg s hroom (by omega)
      rw [hr2] at hr
      injection hr with hr _
      exact .inl (by rw [← hr]; rfl)
    · have hr2 := Lib.run_append_grow_string (P := Tryz.prog) w 64 9 ty 5 i (.int .u8 0) Tryz.underlying64 Tryz.underlying9 hi hz ⟨g, 0, none⟩ n cap (u8s l) (by rw [h1]; exact hown.1) (hown.cells (g := g) rfl) s (by omega) (by omega) (by rw [h2]; exact growslice_fits (by omega) (by omega))
      rw [hr2] at hr
      injection hr with hr _
      exact .inr (by rw [← hr]; rfl)
/-- as one step of a region that draws its order ('go_region_law') -/
theorem step8s {ops : Array Oper} {o : Oper} {a : Act} {w : World} {K : Act → World → Prop} {Q : Exit → Act → World → Prop} {E : Prop} (hgd : Region.wanted o (yielded ops a.tmps) = true) (sl x : Operand)
    (ho : o.op = .call { callee := .builtin .append, args := #[sl, x], argTypes := #[64, 9] })
    (base : Nat) (v : Value) (n : Nat) (l : List UInt8) (hs : a.eval sl = v) (hown : w.ownsRow base 5 1 v n (u8s l)) (s : ByteArray) (hx : a.eval x = .string s) (hb : n + s.size ≤ 140737488355328) (hbase : base ≤ w.heap.size)
    (h : ∀ v' w', w'.ownsRow base 5 1 v' (n + s.size) (u8s (l ++ s.data.toList)) → Fr (fun i => v.ownBlock = some i) w w' → (v'.ownBlock = v.ownBlock ∨ v'.ownBlock = some w.heap.size) → K (a.put o.dst v') w') :
    if Region.wanted o (yielded ops a.tmps) = true then Oper.wp Tryz.prog o a w K Q else E := by
  rw [if_pos hgd]
  obtain ⟨v', w', hrun, g1, g2, g3⟩ := run_append_str w base o.type v n l hown s hb hbase
  unfold Oper.wp execOp
  simp only [ho, resolve, invoke, builtin, Sem.run_bind, Sem.run_pure, Result.andThen_ok, List.map_toArray, List.map_cons, List.map_nil, hs, hx, hrun]
  exact h v' w' g1 ((Fr.refl _ w).grown g2 (fun g e => .inl e)) g3
end Go.Proofs.YthkjmbkfcnehoaaGreatDoor
