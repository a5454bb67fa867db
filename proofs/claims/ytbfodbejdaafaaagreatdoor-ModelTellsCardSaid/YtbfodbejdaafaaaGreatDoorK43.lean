/- The texts RefTree6, RefTree7, joined. -/
import Derived.Test.YtbfodbejdaafaaaGreatDoorK40
import Derived.Test.YtbfodbejdaafaaaGreatDoorK41
import Derived.Test.YtbfodbejdaafaaaGreatDoorK42
/- The statements' own tree that grows: what an Open does that may not be, and what is no token. -/
namespace Go.Proofs.YtbfodbejdaafaaaGreatDoor
open Go.RowKit
set_option maxHeartbeats 400000
set_option linter.unusedVariables false

variable {w : World} {base g : Nat} {v1 v2 v3 v4 : Value} {xs : List ByteArray} {G : Gro}
set_option maxHeartbeats 4000000 in
set_option maxRecDepth 20000 in
theorem r_open1_name (X Y : ByteArray) (A : Option Addr) (n c : Nat) (em : Bool) (t : Tok) (w : World) (hG : GrV w base g v1 v2 v3 v4 xs G) (ho : Okg G) {k : Nat} {r : List Int} (hr : G.opn = r ++ [(k : Int)]) (ht : topG G = (k : Int)) (hkl : k < G.l.length) (hk : t.kind = 1) (hX : X.data.toList = t.name) (h1 : t.name = []) :
    Calls Tryz.prog 32 #[.pointer (some ⟨g, 0, none⟩), .agg #[.int .i64 1, .string X, .string Y, .slice A n c, .bool em]] w fun e w' => e = .returned (.int .i64 (takeE G t)) ∧ Fr (fun i => base ≤ i) w w' ∧ (takeE G t = 0 → GrT w' base g (takeS G t)) := by
  have c1 : ∀ o, (w.alloc o).cell? ⟨g, 1, none⟩ = some v2 := fun o => (hG.bk.no ((Fr.refl No w).alloc o)).cell 1
  have hE : takeE G t = 9 := by
    unfold takeE
    rw [if_pos hk, if_pos h1]
  rw [hE]
  obtain ⟨b2, c2, rfl, ct, hrl⟩ := hG.top k r hr
  have ct0 : ∀ o, (w.alloc o).cell? ⟨b2, r.length, none⟩ = some (.int .i64 (k : Int)) := fun o => ((Fr.refl No w).alloc o).cell ct (fun x => x)
  obtain ⟨A1, d1, rfl, hd1⟩ := hG.len1
  have htop := ho.top
  have hrn : G.opn.length = r.length + 1 := by rw [hr]; simp
  have hdp := ho.deep
  have hkI : ¬ (k : Int) < 0 := by omega
  have hXe : (X.toList == []) = true := by rw [beq_iff_eq, ba_list, hX]; exact h1
  clear hX h1 hk
  have HG := Lib.hid hG; have CT := Lib.hid ct
  clear hG ct hE ht hr ho hrn
  go_enter Tryz.func32, Tryz.ntmps32
  go_wp2
  go_name_world u hu
  have H1 := HG.out.start 1 X Y A n c em _ hu
  clear ct0 c1
  obtain ⟨hG1, hTb, hf1⟩ := H1
  have d0 : u.cell? ⟨g, 0, none⟩ = some _ := hG1.bk.cell 0
  have d1' : u.cell? ⟨g, 1, none⟩ = some _ := hG1.bk.cell 1
  have dk : u.cell? ⟨w.heap.size, 0, none⟩ = some (.int .i64 1) := hTb.cell 0
  have dx : u.cell? ⟨w.heap.size, 1, none⟩ = some (.string X) := hTb.cell 1
  have dt := hf1.cell CT.out (fun x => x)
  have hwr : IntKind.i64.wrap (r.length : Int) = (r.length : Int) := IntWalk.i64_in _ ⟨by omega, by omega⟩
  clear hu hG1 hTb
  go_quiet (fail)
  go_wp2
  go_ret
  first | exact ⟨rfl, hf1.no.drewN _, fun e => by cases e⟩ | exact ⟨rfl, hf1.no.drewN _⟩
set_option maxHeartbeats 4000000 in
set_option maxRecDepth 20000 in
theorem r_open1_deep (X Y : ByteArray) (A : Option Addr) (n c : Nat) (em : Bool) (t : Tok) (w : World) (hG : GrV w base g v1 v2 v3 v4 xs G) (ho : Okg G) {k : Nat} {r : List Int} (hr : G.opn = r ++ [(k : Int)]) (ht : topG G = (k : Int)) (hkl : k < G.l.length) (hk : t.kind = 1) (hX : X.data.toList = t.name) (h1 : t.name ≠ []) (h2 : 32 ≤ G.opn.length) :
    Calls Tryz.prog 32 #[.pointer (some ⟨g, 0, none⟩), .agg #[.int .i64 1, .string X, .string Y, .slice A n c, .bool em]] w fun e w' => e = .returned (.int .i64 (takeE G t)) ∧ Fr (fun i => base ≤ i) w w' ∧ (takeE G t = 0 → GrT w' base g (takeS G t)) := by
  have c1 : ∀ o, (w.alloc o).cell? ⟨g, 1, none⟩ = some v2 := fun o => (hG.bk.no ((Fr.refl No w).alloc o)).cell 1
  have hE : takeE G t = 11 := by
    unfold takeE
    rw [if_pos hk, if_neg h1, if_neg (by omega), if_pos h2]
  rw [hE]
  obtain ⟨b2, c2, rfl, ct, hrl⟩ := hG.top k r hr
  have ct0 : ∀ o, (w.alloc o).cell? ⟨b2, r.length, none⟩ = some (.int .i64 (k : Int)) := fun o => ((Fr.refl No w).alloc o).cell ct (fun x => x)
  obtain ⟨A1, d1, rfl, hd1⟩ := hG.len1
  have htop := ho.top
  have hrn : G.opn.length = r.length + 1 := by rw [hr]; simp
  have hdp := ho.deep
  have hkI : ¬ (k : Int) < 0 := by omega
  have hXe : (X.toList == []) = false := by rw [beq_eq_false_iff_ne, ba_list, hX]; exact h1
  have h32 : (32 : Int) ≤ (r.length : Int) + 1 := by omega
  clear hX h1 hk h2
  have HG := Lib.hid hG; have CT := Lib.hid ct
  clear hG ct hE ht hr ho hrn
  go_enter Tryz.func32, Tryz.ntmps32
  go_wp2
  go_name_world u hu
  have H1 := HG.out.start 1 X Y A n c em _ hu
  clear ct0 c1
  obtain ⟨hG1, hTb, hf1⟩ := H1
  have d0 : u.cell? ⟨g, 0, none⟩ = some _ := hG1.bk.cell 0
  have d1' : u.cell? ⟨g, 1, none⟩ = some _ := hG1.bk.cell 1
  have dk : u.cell? ⟨w.heap.size, 0, none⟩ = some (.int .i64 1) := hTb.cell 0
  have dx : u.cell? ⟨w.heap.size, 1, none⟩ = some (.string X) := hTb.cell 1
  have dt := hf1.cell CT.out (fun x => x)
  have hwr : IntKind.i64.wrap (r.length : Int) = (r.length : Int) := IntWalk.i64_in _ ⟨by omega, by omega⟩
  clear hu hG1 hTb
  go_quiet (fail)
  go_wp2
  go_ret
  first | exact ⟨rfl, hf1.no.drewN _, fun e => by cases e⟩ | exact ⟨rfl, hf1.no.drewN _⟩
set_option maxHeartbeats 4000000 in
set_option maxRecDepth 20000 in
theorem r_open1_big (X Y : ByteArray) (A : Option Addr) (n c : Nat) (em : Bool) (t : Tok) (w : World) (hG : GrV w base g v1 v2 v3 v4 xs G) (ho : Okg G) {k : Nat} {r : List Int} (hr : G.opn = r ++ [(k : Int)]) (ht : topG G = (k : Int)) (hkl : k < G.l.length) (hk : t.kind = 1) (hX : X.data.toList = t.name) (h1 : t.name ≠ []) (h2 : ¬ 32 ≤ G.opn.length) (h3 : 500 ≤ G.l.length) :
    Calls Tryz.prog 32 #[.pointer (some ⟨g, 0, none⟩), .agg #[.int .i64 1, .string X, .string Y, .slice A n c, .bool em]] w fun e w' => e = .returned (.int .i64 (takeE G t)) ∧ Fr (fun i => base ≤ i) w w' ∧ (takeE G t = 0 → GrT w' base g (takeS G t)) := by
  have c1 : ∀ o, (w.alloc o).cell? ⟨g, 1, none⟩ = some v2 := fun o => (hG.bk.no ((Fr.refl No w).alloc o)).cell 1
  have hE : takeE G t = 4 := by
    unfold takeE
    rw [if_pos hk, if_neg h1, if_neg (by omega), if_neg h2, if_pos h3]
  rw [hE]
  obtain ⟨b2, c2, rfl, ct, hrl⟩ := hG.top k r hr
  have ct0 : ∀ o, (w.alloc o).cell? ⟨b2, r.length, none⟩ = some (.int .i64 (k : Int)) := fun o => ((Fr.refl No w).alloc o).cell ct (fun x => x)
  obtain ⟨A1, d1, rfl, hd1⟩ := hG.len1
  have htop := ho.top
  have hrn : G.opn.length = r.length + 1 := by rw [hr]; simp
  have hdp := ho.deep
  have hkI : ¬ (k : Int) < 0 := by omega
  have hXe : (X.toList == []) = false := by rw [beq_eq_false_iff_ne, ba_list, hX]; exact h1
  have h32 : ¬ (32 : Int) ≤ (r.length : Int) + 1 := by omega
  have h500 : (500 : Int) ≤ (G.l.length : Int) := by omega
  clear hX h1 hk h2 h3
  have HG := Lib.hid hG; have CT := Lib.hid ct
  clear hG ct hE ht hr ho hrn
  go_enter Tryz.func32, Tryz.ntmps32
  go_wp2
  go_name_world u hu
  have H1 := HG.out.start 1 X Y A n c em _ hu
  clear ct0 c1
  obtain ⟨hG1, hTb, hf1⟩ := H1
  have d0 : u.cell? ⟨g, 0, none⟩ = some _ := hG1.bk.cell 0
  have d1' : u.cell? ⟨g, 1, none⟩ = some _ := hG1.bk.cell 1
  have dk : u.cell? ⟨w.heap.size, 0, none⟩ = some (.int .i64 1) := hTb.cell 0
  have dx : u.cell? ⟨w.heap.size, 1, none⟩ = some (.string X) := hTb.cell 1
  have dt := hf1.cell CT.out (fun x => x)
  have hwr : IntKind.i64.wrap (r.length : Int) = (r.length : Int) := IntWalk.i64_in _ ⟨by omega, by omega⟩
  clear hu hG1 hTb
  go_quiet (fail)
  go_wp2
  go_ret
  first | exact ⟨rfl, hf1.no.drewN _, fun e => by cases e⟩ | exact ⟨rfl, hf1.no.drewN _⟩
set_option maxHeartbeats 4000000 in
set_option maxRecDepth 20000 in
theorem r_open0_name (X Y : ByteArray) (A : Option Addr) (n c : Nat) (em : Bool) (t : Tok) (w : World) (hG : GrV w base g v1 v2 v3 v4 xs G) (ho : Okg G) (h0 : G.opn = []) (ht : topG G = -1) (hk : t.kind = 1) (hX : X.data.toList = t.name) (h1 : t.name = []) :
    Calls Tryz.prog 32 #[.pointer (some ⟨g, 0, none⟩), .agg #[.int .i64 1, .string X, .string Y, .slice A n c, .bool em]] w fun e w' => e = .returned (.int .i64 (takeE G t)) ∧ Fr (fun i => base ≤ i) w w' ∧ (takeE G t = 0 → GrT w' base g (takeS G t)) := by
  have hE : takeE G t = 9 := by
    unfold takeE
    rw [if_pos hk, if_pos h1]
  rw [hE]
  obtain ⟨A2, c2, rfl⟩ := hG.none_ h0
  obtain ⟨A1, d1, rfl, hd1⟩ := hG.len1
  have c1 : ∀ o, (w.alloc o).cell? ⟨g, 1, none⟩ = some (.slice A2 0 c2) := fun o => (hG.bk.no ((Fr.refl No w).alloc o)).cell 1
  have c0 : ∀ o, (w.alloc o).cell? ⟨g, 0, none⟩ = some (.slice A1 G.l.length d1) := fun o => (hG.bk.no ((Fr.refl No w).alloc o)).cell 0
  have hXe : (X.toList == []) = true := by rw [beq_iff_eq, ba_list, hX]; exact h1
  clear hX h1 hk
  clear hG hE ht h0 ho
  go_enter Tryz.func32, Tryz.ntmps32
  go_wp2
  go_ret
  first | exact ⟨rfl, (Fr.refl _ w).alloc _, fun e => by cases e⟩ | exact ⟨rfl, (Fr.refl _ w).alloc _⟩
set_option maxHeartbeats 4000000 in
set_option maxRecDepth 20000 in
theorem r_open0_two (X Y : ByteArray) (A : Option Addr) (n c : Nat) (em : Bool) (t : Tok) (w : World) (hG : GrV w base g v1 v2 v3 v4 xs G) (ho : Okg G) (h0 : G.opn = []) (ht : topG G = -1) (hk : t.kind = 1) (hX : X.data.toList = t.name) (h1 : t.name ≠ []) (h2 : 0 < G.l.length) :
    Calls Tryz.prog 32 #[.pointer (some ⟨g, 0, none⟩), .agg #[.int .i64 1, .string X, .string Y, .slice A n c, .bool em]] w fun e w' => e = .returned (.int .i64 (takeE G t)) ∧ Fr (fun i => base ≤ i) w w' ∧ (takeE G t = 0 → GrT w' base g (takeS G t)) := by
  have hE : takeE G t = 10 := by
    unfold takeE
    rw [if_pos hk, if_neg h1, if_pos ⟨by omega, h2⟩]
  rw [hE]
  obtain ⟨A2, c2, rfl⟩ := hG.none_ h0
  obtain ⟨A1, d1, rfl, hd1⟩ := hG.len1
  have c1 : ∀ o, (w.alloc o).cell? ⟨g, 1, none⟩ = some (.slice A2 0 c2) := fun o => (hG.bk.no ((Fr.refl No w).alloc o)).cell 1
  have c0 : ∀ o, (w.alloc o).cell? ⟨g, 0, none⟩ = some (.slice A1 G.l.length d1) := fun o => (hG.bk.no ((Fr.refl No w).alloc o)).cell 0
  have hXe : (X.toList == []) = false := by rw [beq_eq_false_iff_ne, ba_list, hX]; exact h1
  have hlI : (0 : Int) < (G.l.length : Int) := by omega
  clear hX h1 hk h2
  clear hG hE ht h0 ho
  go_enter Tryz.func32, Tryz.ntmps32
  go_wp2
  go_ret
  first | exact ⟨rfl, (Fr.refl _ w).alloc _, fun e => by cases e⟩ | exact ⟨rfl, (Fr.refl _ w).alloc _⟩
set_option maxHeartbeats 4000000 in
set_option maxRecDepth 20000 in
theorem r_else1 (X Y : ByteArray) (A : Option Addr) (n c : Nat) (em : Bool) (t : Tok) (w : World) (hG : GrV w base g v1 v2 v3 v4 xs G) (ho : Okg G) {k : Nat} {r : List Int} (hr : G.opn = r ++ [(k : Int)]) (ht : topG G = (k : Int)) (hkl : k < G.l.length) (K : Int) (hk : t.kind = K) (k1 : K ≠ 1) (k2 : K ≠ 2) (k3 : K ≠ 3) :
    Calls Tryz.prog 32 #[.pointer (some ⟨g, 0, none⟩), .agg #[.int .i64 K, .string X, .string Y, .slice A n c, .bool em]] w fun e w' => e = .returned (.int .i64 (takeE G t)) ∧ Fr (fun i => base ≤ i) w w' ∧ (takeE G t = 0 → GrT w' base g (takeS G t)) := by
  have c1 : ∀ o, (w.alloc o).cell? ⟨g, 1, none⟩ = some v2 := fun o => (hG.bk.no ((Fr.refl No w).alloc o)).cell 1
  have hE : takeE G t = 9 := by
    unfold takeE
    rw [if_neg (by omega), if_neg (by omega), if_neg (by omega)]
  rw [hE]
  obtain ⟨b2, c2, rfl, ct, hrl⟩ := hG.top k r hr
  have ct0 : ∀ o, (w.alloc o).cell? ⟨b2, r.length, none⟩ = some (.int .i64 (k : Int)) := fun o => ((Fr.refl No w).alloc o).cell ct (fun x => x)
  obtain ⟨A1, d1, rfl, hd1⟩ := hG.len1
  have htop := ho.top
  have hrn : G.opn.length = r.length + 1 := by rw [hr]; simp
  have hdp := ho.deep
  have hkI : ¬ (k : Int) < 0 := by omega
  have e1 : (K == 1) = false := by rw [beq_eq_false_iff_ne]; exact k1
  have e2 : (K == 2) = false := by rw [beq_eq_false_iff_ne]; exact k2
  have e3 : (K == 3) = false := by rw [beq_eq_false_iff_ne]; exact k3
  clear hk k1 k2 k3
  have HG := Lib.hid hG; have CT := Lib.hid ct
  clear hG ct hE ht hr ho hrn
  go_enter Tryz.func32, Tryz.ntmps32
  go_wp2
  go_name_world u hu
  have H1 := HG.out.start K X Y A n c em _ hu
  clear ct0 c1
  obtain ⟨hG1, hTb, hf1⟩ := H1
  have d0 : u.cell? ⟨g, 0, none⟩ = some _ := hG1.bk.cell 0
  have d1' : u.cell? ⟨g, 1, none⟩ = some _ := hG1.bk.cell 1
  have dk : u.cell? ⟨w.heap.size, 0, none⟩ = some (.int .i64 K) := hTb.cell 0
  have dx : u.cell? ⟨w.heap.size, 1, none⟩ = some (.string X) := hTb.cell 1
  have dt := hf1.cell CT.out (fun x => x)
  have hwr : IntKind.i64.wrap (r.length : Int) = (r.length : Int) := IntWalk.i64_in _ ⟨by omega, by omega⟩
  clear hu hG1 hTb
  go_quiet (fail)
  go_wp2
  go_ret
  first | exact ⟨rfl, hf1.no.drewN _, fun e => by cases e⟩ | exact ⟨rfl, hf1.no.drewN _⟩
set_option maxHeartbeats 4000000 in
set_option maxRecDepth 20000 in
theorem r_else0 (X Y : ByteArray) (A : Option Addr) (n c : Nat) (em : Bool) (t : Tok) (w : World) (hG : GrV w base g v1 v2 v3 v4 xs G) (ho : Okg G) (h0 : G.opn = []) (ht : topG G = -1) (K : Int) (hk : t.kind = K) (k1 : K ≠ 1) (k2 : K ≠ 2) (k3 : K ≠ 3) :
    Calls Tryz.prog 32 #[.pointer (some ⟨g, 0, none⟩), .agg #[.int .i64 K, .string X, .string Y, .slice A n c, .bool em]] w fun e w' => e = .returned (.int .i64 (takeE G t)) ∧ Fr (fun i => base ≤ i) w w' ∧ (takeE G t = 0 → GrT w' base g (takeS G t)) := by
  have hE : takeE G t = 9 := by
    unfold takeE
    rw [if_neg (by omega), if_neg (by omega), if_neg (by omega)]
  rw [hE]
  obtain ⟨A2, c2, rfl⟩ := hG.none_ h0
  obtain ⟨A1, d1, rfl, hd1⟩ := hG.len1
  have c1 : ∀ o, (w.alloc o).cell? ⟨g, 1, none⟩ = some (.slice A2 0 c2) := fun o => (hG.bk.no ((Fr.refl No w).alloc o)).cell 1
  have c0 : ∀ o, (w.alloc o).cell? ⟨g, 0, none⟩ = some (.slice A1 G.l.length d1) := fun o => (hG.bk.no ((Fr.refl No w).alloc o)).cell 0
  have e1 : (K == 1) = false := by rw [beq_eq_false_iff_ne]; exact k1
  have e2 : (K == 2) = false := by rw [beq_eq_false_iff_ne]; exact k2
  have e3 : (K == 3) = false := by rw [beq_eq_false_iff_ne]; exact k3
  clear hk k1 k2 k3
  clear hG hE ht h0 ho
  go_enter Tryz.func32, Tryz.ntmps32
  go_wp2
  go_ret
  first | exact ⟨rfl, (Fr.refl _ w).alloc _, fun e => by cases e⟩ | exact ⟨rfl, (Fr.refl _ w).alloc _⟩
end Go.Proofs.YtbfodbejdaafaaaGreatDoor
/- The statements' own tree that grows: what any token does; a text put into a node. -/
namespace Go.Proofs.YtbfodbejdaafaaaGreatDoor
open Go.RowKit
set_option maxHeartbeats 400000
set_option linter.unusedVariables false

variable {w : World} {base g : Nat} {v1 v2 v3 v4 : Value} {xs : List ByteArray} {G : Gro}
theorem gr_le_sum : ∀ {l : List (List UInt8)} {x : List UInt8}, x ∈ l → x.length ≤ (l.map List.length).sum
  | y :: l, x, h => by
    simp only [List.map_cons, List.sum_cons]
    rcases List.mem_cons.1 h with rfl | h
    · omega
    · have := gr_le_sum h; omega
theorem GrV.small (h : GrV w base g v1 v2 v3 v4 xs G) : ∀ x ∈ xs, x.size ≤ (G.txt.map List.length).sum := by
  intro x hx
  have h1 : x.data.toList ∈ G.txt := by rw [← h.ex]; exact List.mem_map.2 ⟨x, hx, rfl⟩
  have h2 := gr_le_sum h1
  rwa [size_list] at h2
theorem r_take_any (X Y : ByteArray) (A : Option Addr) (n c : Nat) (t : Tok) (w : World) (M : Nat → Prop) (hG : GrT w base g G) (ho : Okg G) (hX : X.data.toList = t.name) (hY : Y.data.toList = t.text) (hA : RdI 2 AttrI w M A n c t.attrs) (hn : n ≤ 1000000)
    (hs : (G.txt.map List.length).sum ≤ 1000000000) (hys : Y.size ≤ 1000000000) :
    Calls Tryz.prog 32 #[.pointer (some ⟨g, 0, none⟩), .agg #[.int .i64 t.kind, .string X, .string Y, .slice A n c, .bool t.empty]] w fun e w' => e = .returned (.int .i64 (takeE G t)) ∧ Fr (fun i => base ≤ i) w w' ∧ (takeE G t = 0 → GrT w' base g (takeS G t)) := by
  obtain ⟨v1, v2, v3, v4, xs, hG⟩ := hG
  have hsm := hG.small
  by_cases k1 : t.kind = 1
  · have hk := k1
    rw [k1]
    rcases top_cases G ho with ⟨h0, ht⟩ | ⟨k, r, hr, ht, hkl⟩
    · by_cases h1 : t.name = []
      · exact r_open0_name X Y A n c t.empty t w hG ho h0 ht hk hX h1
      by_cases h2 : 0 < G.l.length
      · exact r_open0_two X Y A n c t.empty t w hG ho h0 ht hk hX h1 h2
      have hE : takeE G t = 0 := by
        unfold takeE
        rw [if_pos hk, if_neg h1, if_neg (by omega), if_neg (by rw [h0]; simp), if_neg (by omega)]
      exact (r_take_open0 X Y A n c t.empty t w M hG ho hk hX hA rfl hn h0 ht hE).mono fun e w' ⟨a, b, d⟩ => ⟨by rw [hE]; exact a, b, fun _ => d⟩
    · by_cases h1 : t.name = []
      · exact r_open1_name X Y A n c t.empty t w hG ho hr ht hkl hk hX h1
      by_cases h2 : 32 ≤ G.opn.length
      · exact r_open1_deep X Y A n c t.empty t w hG ho hr ht hkl hk hX h1 h2
      by_cases h3 : 500 ≤ G.l.length
      · exact r_open1_big X Y A n c t.empty t w hG ho hr ht hkl hk hX h1 h2 h3
      have hE : takeE G t = 0 := by
        unfold takeE
        rw [if_pos hk, if_neg h1, if_neg (by omega), if_neg h2, if_neg h3]
      exact (r_take_open1 X Y A n c t.empty t w M hG ho hk hX hA rfl hn hr ht hkl hE).mono fun e w' ⟨a, b, d⟩ => ⟨by rw [hE]; exact a, b, fun _ => d⟩
  by_cases k2 : t.kind = 2
  · have := r_take_close 2 X Y A n c t.empty t w hG ho k2 hX
    rw [k2]
    exact this
  by_cases k3 : t.kind = 3
  · rcases top_cases G ho with ⟨h0, ht⟩ | ⟨k, r, hr, ht, hkl⟩
    · have := r_take_text0 X Y A n c t.empty t w hG ho k3 hY (by omega) h0 ht
      rw [k3]
      exact this
    · have := r_take_text1 X Y A n c t.empty t w hG ho k3 hY (by omega) hr ht hkl (fun x hx => by have := hsm x hx; omega)
      rw [k3]
      exact this
  rcases top_cases G ho with ⟨h0, ht⟩ | ⟨k, r, hr, ht, hkl⟩
  · exact r_else0 X Y A n c t.empty t w hG ho h0 ht t.kind rfl k1 k2 k3
  · exact r_else1 X Y A n c t.empty t w hG ho hr ht hkl t.kind rfl k1 k2 k3
/-- a store into a row of one's own whose elements have several cells -/
theorem gr_own_setS {e : TypeId} {s n cap b : Nat} {ys : List Value} (h : w.ownsRow base e s (.slice (some ⟨b, 0, none⟩) n cap) n ys) {j : Nat} (hj : j < n * s) (u : Value) :
    (w.setCell ⟨b, j, none⟩ u).ownsRow base e s (.slice (some ⟨b, 0, none⟩) n cap) n (ys.set j u) := by
  have h1 := h.1
  rcases h.2 with ⟨e, _⟩ | ⟨b', cap', cur, e, hb, hg, hnc, hm, hc, ht⟩
  · exact nomatch (Value.slice.inj e).1
  · obtain ⟨e1, e2, e3⟩ := Value.slice.inj e
    injection e1 with e1
    injection e1 with e1
    subst e1 e3
    have hbk : Bk w b _ cur.toList := hg
    refine ⟨by rw [List.length_set]; exact h1, .inr ⟨b, cap, (cur.toList.set j u).toArray, rfl, hb, hbk.set_ j u, hnc, hm, by simpa using hc, ?_⟩⟩
    rw [← ht]
    simp [List.take_set]
theorem ItemsF.set_ {α : Type} {I : World → (Nat → Prop) → List Value → α → Prop} {s : Nat} {N : Nat → Prop} (hI : ItemOk s I) : ∀ {ls : List α} {ys : List Value} (h : ItemsF I w N ys ls) (i : Nat) (hi : i < ls.length) (j : Nat) (hj : j < s) (u : Value) (a : α), I w N (((ys.drop (i * s)).take s).set j u) a → ItemsF I w N (ys.set (i * s + j) u) (ls.set i a)
  | [], _, _, i, hi, _, _, _, _, _ => by simp at hi
  | b :: ls, _, ⟨cs, rest, e, h1, h2⟩, 0, hi, j, hj, u, a, ha => by
    have hl := hI.len h1
    subst e
    rw [Nat.zero_mul, List.drop_zero, List.take_left' hl] at ha
    rw [Nat.zero_mul, Nat.zero_add, List.set_append_left _ _ (by omega)]
    exact ⟨cs.set j u, rest, rfl, ha, h2⟩
  | b :: ls, _, ⟨cs, rest, e, h1, h2⟩, i + 1, hi, j, hj, u, a, ha => by
    have hl := hI.len h1
    subst e
    have e2 : (i + 1) * s = cs.length + i * s := by rw [hl, Nat.add_mul]; omega
    rw [e2, List.drop_append, List.drop_eq_nil_of_le (by omega), List.nil_append, Nat.add_sub_cancel_left] at ha
    have h3 := ItemsF.set_ hI h2 i (by simpa using hi) j hj u a ha
    rw [e2, Nat.add_assoc, List.set_append_right _ _ (by omega), Nat.add_sub_cancel_left]
    exact ⟨cs, _, rfl, h1, h3⟩
/-- a text into the k-th node -/
theorem GrV.setT {b1 c1 k : Nat} {Y : ByteArray} {nd : Nod} (h : GrV w base g (.slice (some ⟨b1, 0, none⟩) G.l.length c1) v2 v3 v4 xs G) (hk : G.l[k]? = some nd) :
    GrV (w.setCell ⟨b1, k * 4 + 2, none⟩ (.string Y)) base g (.slice (some ⟨b1, 0, none⟩) G.l.length c1) v2 v3 v4 xs { G with l := G.l.set k { nd with text := Y.data.toList } } := by
  have hkl : k < G.l.length := (List.getElem?_eq_some_iff.1 hk).1
  have hs : Fr (Just b1) w (w.setCell ⟨b1, k * 4 + 2, none⟩ (.string Y)) := (Fr.refl (Just b1) w).setCell (p := ⟨b1, k * 4 + 2, none⟩) (.inl (Just.at b1)) _
  obtain ⟨ys, ho, hi⟩ := h.o1.xs
  have hat := ItemsF.at_ nod_ok hi k hkl
  have hnd : G.l[k] = nd := (List.getElem?_eq_some_iff.1 hk).2
  rw [hnd] at hat
  have h1 : b1 ≠ g := fun e => h.ap.g1 (by rw [e]; rfl)
  have hD : ∀ i, Deep w base g (.slice (some ⟨b1, 0, none⟩) G.l.length c1) v2 v3 v4 i → ¬ Just b1 i := fun i hi e => hi.2.2.2.1 (by rw [show i = b1 from e]; rfl)
  have hi2 := ItemsF.fr nod_ok hi hs hD
  have hat2 := nod_ok.fr hat hs hD
  have hset := ItemsF.set_ nod_ok hi2 k hkl 2 (by omega) (.string Y) { nd with text := Y.data.toList } (by
    obtain ⟨X, Y0, A, n, c, hcs, hX, hY, hA⟩ := hat2
    rw [hcs]
    exact ⟨X, Y, A, n, c, rfl, hX, rfl, hA⟩)
  have ho2 := gr_own_setS ho (j := k * 4 + 2) (by omega) (.string Y)
  have hz : (w.setCell ⟨b1, k * 4 + 2, none⟩ (.string Y)).heap.size = w.heap.size := by simp [World.setCell]
  refine ⟨h.bk.fr hs (fun e => h1 e.symm), h.low, ?_, hs.own h.o2 (fun i e e2 => h.ap.h12 i (by rw [show i = b1 from e2]; rfl) e), h.ex, hs.own h.o3 (fun i e e2 => h.ap.h13 i (by rw [show i = b1 from e2]; rfl) e), hs.own h.o4 (fun i e e2 => h.ap.h14 i (by rw [show i = b1 from e2]; rfl) e), h.ap⟩
  rw [show ({ G with l := G.l.set k { nd with text := Y.data.toList } } : Gro).l.length = G.l.length from by simp]
  exact ⟨⟨_, ho2, ItemsF.mono nod_ok hset (fun i hi => ⟨hi.1, by rw [hz]; exact hi.2.1, hi.2.2⟩)⟩⟩
end Go.Proofs.YtbfodbejdaafaaaGreatDoor
