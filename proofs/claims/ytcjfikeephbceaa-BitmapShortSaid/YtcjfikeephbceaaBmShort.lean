/- BitmapShort: cut it is too short; with a second part that says nothing, or a third one, it is none: the walk, for every list of bytes, number and bool. -/
import Derived.Test.YtcjfikeephbceaaBmAwake
namespace Go.Proofs.Ytcjfikeephbceaa
open Go.RowKit
set_option maxHeartbeats 400000
set_option linter.unusedVariables false

/-- copy of bytes into the head of a block of bytes, as many as there are -/
theorem cp8_min (w : World) {ops : Array Oper} {rest : List Oper} {o : Oper} {a : Act} {Q : Exit → Act → World → Prop} (hgd : Region.wanted o (yielded ops a.tmps) = true) (d s : Operand)
    (ho : o.op = .call { callee := .builtin .copy, args := #[d, s], argTypes := #[23, 23] })
    (g n cap : Nat) (k : List UInt8) (hd : a.eval d = .slice (some ⟨g, 0, none⟩) n cap) (hbk : Bk w g 5 (u8s k))
    (A : Option Addr) (m c : Nat) (l : List UInt8) (hs : a.eval s = .slice A m c) (hr : Rd w A m c (u8s l)) (hlen : n ≤ k.length)
    (h : ∀ w', Bk w' g 5 (u8s (l.take (min n m) ++ k.drop (min n m))) → Fr (Just g) w w' → w'.heap.size = w.heap.size → wpList Try.prog ops Q rest (a.put o.dst (.int .i64 ((min n m : Nat) : Int))) w') :
    wpList Try.prog ops Q (o :: rest) a w := by
  obtain ⟨i, hi, hz, h1, h2⟩ := info_parts info_u8
  refine wpList_go hgd fun K hK => ?_
  have hl := hr.len
  rw [u8s_length] at hl
  have hrun : ∃ w', (Builtin.copy_ #[23, 23] o.type #[.slice (some ⟨g, 0, none⟩) n cap, .slice A m c]).run Try.prog w = .ok (goInt (min n m : Nat)) w' ∧ Bk w' g 5 (u8s (l.take (min n m) ++ k.drop (min n m))) ∧ Fr (Just g) w w' ∧ w'.heap.size = w.heap.size := by
    cases A with
    | none =>
      obtain ⟨rfl, rfl, rfl⟩ := hr.none_
      refine ⟨w, ?_, by simpa using hbk, Fr.refl _ _, rfl⟩
      rw [Nat.min_zero]
      exact run_copy_nil Try.prog w 23 23 o.type 5 ⟨g, 0, none⟩ n cap Try.underlying23 (by simp [hi])
    | some ad =>
      have hnl : (u8s (l.take (min n m))).length = min n m := by rw [u8s_length, List.length_take]; omega
      have hr1 := run_copy_row (P := Try.prog) w 23 23 o.type 5 g 0 n cap ad m c (u8s k).toArray 5 (u8s (l.take (min n m))) Try.underlying23 (by simp [hi, h1]) hbk (by rw [hnl, Nat.min_comm])
        (fun j v hj => hr.cells ad rfl j v (by
          unfold u8s at hj ⊢
          rw [List.getElem?_map] at hj ⊢
          rw [List.getElem?_take] at hj
          split at hj
          · exact hj
          · cases hj)) (by rw [hnl]; simp; omega) (u8s_one _)
      rw [hnl] at hr1
      have e0 : List.take 0 (u8s k).toArray.toList ++ u8s (l.take (min n m)) ++ List.drop (0 + min n m) (u8s k).toArray.toList = u8s (l.take (min n m) ++ k.drop (min n m)) := by simp [u8s]
      rw [e0] at hr1
      exact ⟨_, hr1, hbk.row _, (Fr.refl (Just g) w).row (g := g) (.inl (Just.at g)) _, by simp⟩
  obtain ⟨w', hrun, h2, h3, h4⟩ := hrun
  unfold Oper.wp execOp
  simp only [ho, resolve, invoke, builtin, Sem.run_bind, Sem.run_pure, Result.andThen_ok, List.map_toArray, List.map_cons, List.map_nil, hd, hs, hrun]
  exact hK _ _ (h w' h2 h3 h4)

theorem short_par {K : List UInt8} {cut : Nat} (hl : K.length = 16) (h0 : bitAt K 0 = true) (hc : cut < 16) : parE (K.take cut) = 3 := by
  have hlen : (K.take cut).length = cut := by rw [List.length_take]; omega
  by_cases h8 : cut < 8
  · exact (bm_bad3 (.inl (by omega))).1
  · refine (bm_bad3 (.inr ?_)).1
    unfold mapN
    rw [bitAt_take _ _ _ (by omega), h0, if_pos rfl]
    omega
theorem bad_par {K : List UInt8} (hl : K.length = 16) (h0 : bitAt K 0 = true) (h : bitAt K 64 = true ∨ ∀ i, 65 ≤ i → i < 128 → bitAt K i = false) : parE K = 6 := by
  have hN : mapN K = 16 := by unfold mapN; rw [if_pos h0]
  refine (bm_bad6 (by omega) ?_).1
  unfold mapBad
  rw [h0, Bool.true_and, Bool.or_eq_true]
  rcases h with h | h
  · exact .inl h
  · refine .inr ?_
    rw [Bool.not_eq_true', ← Bool.not_eq_true, List.any_eq_true]
    rintro ⟨x, hx, h66⟩
    have h66' := of_decide_eq_true h66
    obtain ⟨h1, h2, h3⟩ := (setOf_mem K 16 (by omega) _).1 hx
    rw [h _ (by omega) (by omega)] at h3
    cases h3
theorem bitAt_tail (H T : List UInt8) (i : Nat) (hl : H.length = 8) (hi : 64 ≤ i) : bitAt (H ++ T) i = bitAt T (i - 64) := by
  unfold bitAt
  rw [List.getD, List.getD, List.getElem?_append_right (by omega), hl, show i / 8 - 8 = (i - 64) / 8 from by omega, show (i - 64) % 8 = i % 8 from by omega]
theorem zero_par (H : List UInt8) (hl : H.length = 8) (h0 : bitAt H 0 = true) : parE (H ++ List.replicate 8 0) = 6 :=
  bad_par (by simp [hl]) (by rw [bitAt_append_left _ _ _ (by omega)]; exact h0) (.inr fun i h1 h2 => by rw [bitAt_tail _ _ _ hl (by omega), bitAt_zero])
theorem third_par (H : List UInt8) (hl : H.length = 8) (h0 : bitAt H 0 = true) : parE (H ++ [128, 0, 0, 0, 0, 0, 0, 1]) = 6 :=
  bad_par (by simp [hl]) (by rw [bitAt_append_left _ _ _ (by omega)]; exact h0) (.inl (by rw [bitAt_tail _ _ _ hl (by omega)]; rfl))

/-- what a copy lays over sixteen noughts: sixteen bytes -/
theorem laid16 (l : List UInt8) (n : Nat) (hl : l.length = n) : ∃ y T, l.take (min 16 n) ++ (List.replicate 16 0).drop (min 16 n) = y :: T ∧ T.length = 15 := by
  have h : (l.take (min 16 n) ++ (List.replicate 16 (0 : UInt8)).drop (min 16 n)).length = 16 := by
    rw [List.length_append, List.length_take, List.length_drop, List.length_replicate]
    omega
  cases hx : l.take (min 16 n) ++ (List.replicate 16 (0 : UInt8)).drop (min 16 n) with
  | nil => rw [hx] at h; cases h
  | cons y T => rw [hx] at h; exact ⟨y, T, rfl, by simpa using h⟩
theorem first_bit : ∀ y : UInt8, ((y ||| 128).toNat.testBit 7) = true := by
  intro y
  rw [UInt8.toNat_or, Nat.testBit_or]
  have : ((128 : UInt8).toNat.testBit 7) = true := rfl
  rw [this, Bool.or_true]
theorem or128 (y : UInt8) : bits BinOp.or IntKind.u8 (y.toNat : Int) 128 = ((y ||| 128).toNat : Int) := or_u8 y 128
/-- k of the second half's bytes are noughts -/
def zeroed (K : List UInt8) (k : Nat) : List UInt8 := K.take 8 ++ (List.replicate k 0 ++ K.drop (8 + k))
theorem zeroed_set (K : List UInt8) (k : Nat) (hl : K.length = 16) (hk : k < 8) : (u8s (zeroed K k)).set (8 + k) (.int .u8 0) = u8s (zeroed K (k + 1)) := by
  have h0 : (Value.int .u8 0) = .int .u8 ((0 : UInt8).toNat : Int) := rfl
  have hs : ∀ (L : List UInt8) (j : Nat) (c : UInt8), (u8s L).set j (.int .u8 (c.toNat : Int)) = u8s (L.set j c) := fun L j c => by simp [u8s, List.map_set]
  rw [h0, hs]
  congr 1
  unfold zeroed
  rw [List.set_append_right _ _ (by rw [List.length_take]; omega), List.length_take, show 8 + k - min 8 K.length = k from by omega, List.set_append_right _ _ (by simp), List.length_replicate, Nat.sub_self,
    List.drop_eq_getElem_cons (show 8 + k < K.length by omega), List.set_cons_zero, List.replicate_succ', List.append_assoc]
  rfl
theorem zeroed_len (K : List UInt8) (k : Nat) (hl : K.length = 16) (hk : k ≤ 8) : (zeroed K k).length = 16 := by
  unfold zeroed
  rw [List.length_append, List.length_append, List.length_take, List.length_replicate, List.length_drop]
  omega
theorem zeroed_all (K : List UInt8) (hl : K.length = 16) : zeroed K 8 = K.take 8 ++ List.replicate 8 0 := by
  unfold zeroed
  rw [List.drop_of_length_le (by omega), List.append_nil]
theorem third_set (H : List UInt8) (hl : H.length = 8) : ((u8s (H ++ List.replicate 8 0)).set 8 (.int .u8 128)).set 15 (.int .u8 1) = u8s (H ++ [128, 0, 0, 0, 0, 0, 0, 1]) := by
  match H, hl with
  | [a, b, c, d, e, f, g, h], _ => rfl

theorem short_walk {A : Option Addr} {n c : Nat} {l : List UInt8} {z : Int} {b : Bool} (w : World) (ha : Rd w A n c (u8s l)) (hz : (Lit.int .i64 z).wf = true) :
    Calls Try.prog 6 #[.slice A n c, .int .i64 z, .bool b] w fun e w' => e = .returned (.bool true) ∧ Fr No w w' := by
  obtain ⟨q, hq, hq1⟩ := rem_nat z 16 (by omega)
  go_enter Try.func6, Try.ntmps6
  go_wp2_with (first | (at_make; go_must (refine mk8 w rfl (.const (.int .i64 16)) (.const (.int .i64 16)) rfl .i64 .i64 _ _ 16 16 rfl rfl (by omega) (by omega) (by omega) (by omega) ?_); intro w1 hb1 hf1 hs1) | ((with_reducible refine cp8_min w1 rfl (.tmp 16) (.tmp 17) rfl w.heap.size 16 16 (List.replicate 16 0) rfl hb1 A n c l rfl (ha.no hf1) ?_ ?_); (simp); intro w2 hb2 hf2 hs2; obtain ⟨y, T, hK, hT⟩ := laid16 l n (by simpa using ha.len); rw [hK] at hb2; have c0 : w2.cell? ⟨w.heap.size, 0, none⟩ = some (.int .u8 (y.toNat : Int)) := hb2.cell 0; have f0 := hb2.frozen 0))
  have hb3 : Bk (w2.setCell ⟨w.heap.size, 0, none⟩ (.int .u8 (bits BinOp.or IntKind.u8 (y.toNat : Int) 128))) w.heap.size 5 (u8s ((y ||| 128) :: T)) := by
    have h9 := hb2.set_ 0 (.int .u8 (bits BinOp.or IntKind.u8 (y.toNat : Int) 128))
    rw [or128] at h9 ⊢
    exact h9
  have hf3 : Fr No w (w2.setCell ⟨w.heap.size, 0, none⟩ (.int .u8 (bits BinOp.or IntKind.u8 (y.toNat : Int) 128))) := (hf1.trans_just hf2 (Nat.le_refl _)).setCell (.inr (Nat.le_refl _)) _
  have hb0 : bitAt ((y ||| 128) :: T) 0 = true := first_bit y
  have hK16 : ((y ||| 128) :: T).length = 16 := by rw [List.length_cons, hT]
  generalize (y ||| 128) :: T = K at hb3 hb0 hK16
  have e3 := short_par hK16 hb0 (cut := q) (by omega)
  have hrd := (hb3.rd (n := q) (cap := 16) (by omega) (by simp [maxLen]) (by rw [u8s_length]; omega))
  have ek : (u8s K).take q = u8s (K.take q) := by simp [u8s]
  rw [ek] at hrd
  have E3 := Lib.hid e3; have HB0 := Lib.hid hb0; have HK16 := Lib.hid hK16
  clear e3 hb0 hK16 ek hT hK hb2 c0 f0
  go_wp2_with (go_at_call 13; refine (parse_any _ q 16 (K.take q) _ hrd (by omega)).mono ?_; rw [E3.out]; rintro e w4 ⟨v4, rfl, ho4, hf4⟩)
  have hb4 := hb3.no hf4
  have hf5 := hf3.trans hf4
  clear hb3 hf3 hrd
  go_loopw [11] (fun i wr => ∃ k : Nat, k ≤ 8 ∧ i = .int .i64 ((8 + k : Nat) : Int) ∧ Bk wr w.heap.size 5 (u8s (zeroed K k)) ∧ Fr No w wr) (fun i _ => 16 - (intOf i).toNat)
  case atStart => exact ⟨0, by omega, rfl, by rw [show zeroed K 0 = K from by simp [zeroed]]; exact hb4, hf5⟩
  case round =>
    clear hb4 hf5
    obtain ⟨k, hk, rfl, hb, hf⟩ := hrel
    rcases Nat.lt_or_ge k 8 with hlt | hge
    · obtain ⟨u, hu⟩ : ∃ u, (u8s (zeroed K k))[8 + k]? = some u := ⟨_, List.getElem?_eq_getElem (by rw [u8s_length, zeroed_len _ _ HK16.out hk]; omega)⟩
      have hc : wr.cell? ⟨w.heap.size, 8 + k, none⟩ = some u := by rw [hb.cell]; exact hu
      have hfz := hb.frozen (8 + k)
      have HS := Lib.hid (zeroed_set K k HK16.out hlt)
      clear hu
      go_wp2
      go_roundw
      case rel => exact ⟨k + 1, by omega, by go_num, by rw [← HS.out]; exact hb.set_ _ _, hf.setCell (.inr (Nat.le_refl _)) _⟩
      case measure => simp [intOf]; omega
    · obtain rfl : k = 8 := by omega
      rw [zeroed_all K HK16.out] at hb
      have hl8 : (K.take 8).length = 8 := by rw [List.length_take, HK16.out]; omega
      have h08 : bitAt (K.take 8) 0 = true := by rw [bitAt_take _ _ _ (by omega)]; exact HB0.out
      have e4 := zero_par _ hl8 h08
      have e5 := third_par _ hl8 h08
      have hset := third_set _ hl8
      have hrk : (u8s (K.take 8 ++ List.replicate 8 0)).take 16 = u8s (K.take 8 ++ List.replicate 8 0) := List.take_of_length_le (by simp [hl8])
      have hrk2 : (u8s (K.take 8 ++ [128, 0, 0, 0, 0, 0, 0, 1])).take 16 = u8s (K.take 8 ++ [128, 0, 0, 0, 0, 0, 0, 1]) := List.take_of_length_le (by simp [hl8])
      have hlen1 : 16 ≤ (u8s (K.take 8 ++ List.replicate 8 0)).length := by simp [hl8]
      have hlen2 : 16 ≤ (u8s (K.take 8 ++ [128, 0, 0, 0, 0, 0, 0, 1])).length := by simp [hl8]
      have hc8 : ∃ u, wr.cell? ⟨w.heap.size, 8, none⟩ = some u := by rw [hb.cell]; exact ⟨_, List.getElem?_eq_getElem (by omega)⟩
      have hc15 : ∃ u, wr.cell? ⟨w.heap.size, 15, none⟩ = some u := by rw [hb.cell]; exact ⟨_, List.getElem?_eq_getElem (by omega)⟩
      obtain ⟨u8, hu8⟩ := hc8
      obtain ⟨u15, hu15⟩ := hc15
      have hf8 := hb.frozen 8
      have hf15 := hb.frozen 15
      cases b with
      | false =>
        have hrd := hb.rd (n := 16) (cap := 16) (Nat.le_refl _) (by simp [maxLen]) hlen1
        rw [hrk] at hrd
        have E4 := Lib.hid e4
        clear e4 e5 hset hrk hrk2 hlen1 hlen2
        go_wp2_with (first
          | (go_at_call 13; refine (parse_any _ 16 16 _ _ hrd (by omega)).mono ?_; rw [E4.out]; rintro e w6 ⟨v6, rfl, ho6, hf6⟩)
          | (go_at_call 8; refine (awake_any _).mono ?_; rintro e w7 ⟨rfl, hf7⟩))
        go_ret
        exact ⟨rfl, (hf.trans hf6).trans hf7⟩
      | true =>
        have hb9 := (hb.set_ 8 (.int .u8 128)).set_ 15 (.int .u8 1)
        rw [hset] at hb9
        have hrd := hb9.rd (n := 16) (cap := 16) (Nat.le_refl _) (by simp [maxLen]) hlen2
        rw [hrk2] at hrd
        have hF9 : Fr No w ((wr.setCell ⟨w.heap.size, 8, none⟩ (.int .u8 128)).setCell ⟨w.heap.size, 15, none⟩ (.int .u8 1)) := (hf.setCell (p := ⟨w.heap.size, 8, none⟩) (.inr (Nat.le_refl _)) _).setCell (p := ⟨w.heap.size, 15, none⟩) (.inr (Nat.le_refl _)) _
        have E5 := Lib.hid e5
        have hb8 := hb.set_ 8 (.int .u8 128)
        have hx15 : ∃ u, (wr.setCell ⟨w.heap.size, 8, none⟩ (.int .u8 128)).cell? ⟨w.heap.size, 15, none⟩ = some u := by rw [hb8.cell]; exact ⟨_, List.getElem?_eq_getElem (by simp [hl8])⟩
        obtain ⟨x15, hx15⟩ := hx15
        have hy15 := hb8.frozen 15
        clear e4 e5 hset hrk hrk2 hlen1 hlen2
        go_wp2_with (first
          | (go_at_call 13; refine (parse_any _ 16 16 _ _ hrd (by omega)).mono ?_; rw [E5.out]; rintro e w6 ⟨v6, rfl, ho6, hf6⟩)
          | (go_at_call 8; refine (awake_any _).mono ?_; rintro e w7 ⟨rfl, hf7⟩))
        go_ret
        exact ⟨rfl, (hF9.trans hf6).trans hf7⟩
end Go.Proofs.Ytcjfikeephbceaa
