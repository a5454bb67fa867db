/- The statements' own tree that grows: what an Open does that may not be, and what is no token. -/
import Derived.Test.YthkjmbkfcnehoaaGreatDoorRefTree3
namespace Go.Proofs.YthkjmbkfcnehoaaGreatDoor
open Go.RowKit
set_option maxHeartbeats 400000
set_option linter.unusedVariables false

variable {w : World} {base g : Nat} {v1 v2 v3 v4 : Value} {xs : List ByteArray} {G : Gro}
set_option maxHeartbeats 4000000 in
set_option maxRecDepth 20000 in
theorem r_open1_name (X Y : ByteArray) (A : Option Addr) (n c : Nat) (em : Bool) (t : Tok) (w : World) (hG : GrV w base g v1 v2 v3 v4 xs G) (ho : Okg G) {k : Nat} {r : List Int} (hr : G.opn = r ++ [(k : Int)]) (ht : topG G = (k : Int)) (hkl : k < G.l.length) (hk : t.kind = 1) (hX : X.data.toList = t.name) (h1 : t.name = []) :
    Calls Tryz.prog 19 #[.pointer (some ⟨g, 0, none⟩), .agg #[.int .i64 1, .string X, .string Y, .slice A n c, .bool em]] w fun e w' => e = .returned (.int .i64 (takeE G t)) ∧ Fr (fun i => base ≤ i) w w' ∧ (takeE G t = 0 → GrT w' base g (takeS G t)) := by
  have c1 : ∀ o, (w.alloc o).cell? ⟨g, 1, none⟩ = some v2 := fun o => (hG.bk.no ((Fr.refl No w).alloc o)).cell 1
  have hE : takeE G t = 9 := by
    unfold takeE
    rw [if_pos hk, if_pos h1]
  rw [hE]
  obtain ⟨b2, c2, rfl, ct, hrl⟩ := hG.top k r hr
  have ct0 : ∀ o, (w.alloc o).cell? ⟨b2, r.length, none⟩ = some (.int .i64 (k : Int)) := fun o => ((Fr.refl No w).alloc o).cell ct (fun x => x)
  obtain ⟨A1, d1, rfl, hd1⟩ := hG.len1
  have htop := ho.top
  have hrn : G.opn.length = r.length + 1 := by rw [hr]; simp
  have hdp := ho.deep
  have hkI : ¬ (k : Int) < 0 := by omega
  have hXe : (X.toList == []) = true := by rw [beq_iff_eq, ba_list, hX]; exact h1
  clear hX h1 hk
  have HG := Lib.hid hG; have CT := Lib.hid ct
  clear hG ct hE ht hr ho hrn
  go_enter Tryz.func19, Tryz.ntmps19
  go_wp2
  go_name_world u hu
  have H1 := HG.out.start 1 X Y A n c em _ hu
  clear ct0 c1
  obtain ⟨hG1, hTb, hf1⟩ := H1
  have d0 : u.cell? ⟨g, 0, none⟩ = some _ := hG1.bk.cell 0
  have d1' : u.cell? ⟨g, 1, none⟩ = some _ := hG1.bk.cell 1
  have dk : u.cell? ⟨w.heap.size, 0, none⟩ = some (.int .i64 1) := hTb.cell 0
  have dx : u.cell? ⟨w.heap.size, 1, none⟩ = some (.string X) := hTb.cell 1
  have dt := hf1.cell CT.out (fun x => x)
  have hwr : IntKind.i64.wrap (r.length : Int) = (r.length : Int) := IntWalk.i64_in _ ⟨by omega, by omega⟩
  clear hu hG1 hTb
  go_quiet (fail)
  go_wp2
  go_ret
  first | exact ⟨rfl, hf1.no.drewN _, fun e => by cases e⟩ | exact ⟨rfl, hf1.no.drewN _⟩
set_option maxHeartbeats 4000000 in
set_option maxRecDepth 20000 in
theorem r_open1_deep (X Y : ByteArray) (A : Option Addr) (n c : Nat) (em : Bool) (t : Tok) (w : World) (hG : GrV w base g v1 v2 v3 v4 xs G) (ho : Okg G) {k : Nat} {r : List Int} (hr : G.opn = r ++ [(k : Int)]) (ht : topG G = (k : Int)) (hkl : k < G.l.length) (hk : t.kind = 1) (hX : X.data.toList = t.name) (h1 : t.name ≠ []) (h2 : 32 ≤ G.opn.length) :
    Calls Tryz.prog 19 #[.pointer (some ⟨g, 0, none⟩), .agg #[.int .i64 1, .string X, .string Y, .slice A n c, .bool em]] w fun e w' => e = .returned (.int .i64 (takeE G t)) ∧ Fr (fun i => base ≤ i) w w' ∧ (takeE G t = 0 → GrT w' base g (takeS G t)) := by
  have c1 : ∀ o, (w.alloc o).cell? ⟨g, 1, none⟩ = some v2 := fun o => (hG.bk.no ((Fr.refl No w).alloc o)).cell 1
  have hE : takeE G t = 11 := by
    unfold takeE
    rw [if_pos hk, if_neg h1, if_neg (by omega), if_pos h2]
  rw [hE]
  obtain ⟨b2, c2, rfl, ct, hrl⟩ := hG.top k r hr
  have ct0 : ∀ o, (w.alloc o).cell? ⟨b2, r.length, none⟩ = some (.int .i64 (k : Int)) := fun o => ((Fr.refl No w).alloc o).cell ct (fun x => x)
  obtain ⟨A1, d1, rfl, hd1⟩ := hG.len1
  have htop := ho.top
  have hrn : G.opn.length = r.length + 1 := by rw [hr]; simp
  have hdp := ho.deep
  have hkI : ¬ (k : Int) < 0 := by omega
  have hXe : (X.toList == []) = false := by rw [beq_eq_false_iff_ne, ba_list, hX]; exact h1
  have h32 : (32 : Int) ≤ (r.length : Int) + 1 := by omega
  clear hX h1 hk h2
  have HG := Lib.hid hG; have CT := Lib.hid ct
  clear hG ct hE ht hr ho hrn
  go_enter Tryz.func19, Tryz.ntmps19
  go_wp2
  go_name_world u hu
  have H1 := HG.out.start 1 X Y A n c em _ hu
  clear ct0 c1
  obtain ⟨hG1, hTb, hf1⟩ := H1
  have d0 : u.cell? ⟨g, 0, none⟩ = some _ := hG1.bk.cell 0
  have d1' : u.cell? ⟨g, 1, none⟩ = some _ := hG1.bk.cell 1
  have dk : u.cell? ⟨w.heap.size, 0, none⟩ = some (.int .i64 1) := hTb.cell 0
  have dx : u.cell? ⟨w.heap.size, 1, none⟩ = some (.string X) := hTb.cell 1
  have dt := hf1.cell CT.out (fun x => x)
  have hwr : IntKind.i64.wrap (r.length : Int) = (r.length : Int) := IntWalk.i64_in _ ⟨by omega, by omega⟩
  clear hu hG1 hTb
  go_quiet (fail)
  go_wp2
  go_ret
  first | exact ⟨rfl, hf1.no.drewN _, fun e => by cases e⟩ | exact ⟨rfl, hf1.no.drewN _⟩
set_option maxHeartbeats 4000000 in
set_option maxRecDepth 20000 in
theorem r_open1_big (X Y : ByteArray) (A : Option Addr) (n c : Nat) (em : Bool) (t : Tok) (w : World) (hG : GrV w base g v1 v2 v3 v4 xs G) (ho : Okg G) {k : Nat} {r : List Int} (hr : G.opn = r ++ [(k : Int)]) (ht : topG G = (k : Int)) (hkl : k < G.l.length) (hk : t.kind = 1) (hX : X.data.toList = t.name) (h1 : t.name ≠ []) (h2 : ¬ 32 ≤ G.opn.length) (h3 : 500 ≤ G.l.length) :
    Calls Tryz.prog 19 #[.pointer (some ⟨g, 0, none⟩), .agg #[.int .i64 1, .string X, .string Y, .slice A n c, .bool em]] w fun e w' => e = .returned (.int .i64 (takeE G t)) ∧ Fr (fun i => base ≤ i) w w' ∧ (takeE G t = 0 → GrT w' base g (takeS G t)) := by
  have c1 : ∀ o, (w.alloc o).cell? ⟨g, 1, none⟩ = some v2 := fun o => (hG.bk.no ((Fr.refl No w).alloc o)).cell 1
  have hE : takeE G t = 4 := by
    unfold takeE
    rw [if_pos hk, if_neg h1, if_neg (by omega), if_neg h2, if_pos h3]
  rw [hE]
  obtain ⟨b2, c2, rfl, ct, hrl⟩ := hG.top k r hr
  have ct0 : ∀ o, (w.alloc o).cell? ⟨b2, r.length, none⟩ = some (.int .i64 (k : Int)) := fun o => ((Fr.refl No w).alloc o).cell ct (fun x => x)
  obtain ⟨A1, d1, rfl, hd1⟩ := hG.len1
  have htop := ho.top
  have hrn : G.opn.length = r.length + 1 := by rw [hr]; simp
  have hdp := ho.deep
  have hkI : ¬ (k : Int) < 0 := by omega
  have hXe : (X.toList == []) = false := by rw [beq_eq_false_iff_ne, ba_list, hX]; exact h1
  have h32 : ¬ (32 : Int) ≤ (r.length : Int) + 1 := by omega
  have h500 : (500 : Int) ≤ (G.l.length : Int) := by omega
  clear hX h1 hk h2 h3
  have HG := Lib.hid hG; have CT := Lib.hid ct
  clear hG ct hE ht hr ho hrn
  go_enter Tryz.func19, Tryz.ntmps19
  go_wp2
  go_name_world u hu
  have H1 := HG.out.start 1 X Y A n c em _ hu
  clear ct0 c1
  obtain ⟨hG1, hTb, hf1⟩ := H1
  have d0 : u.cell? ⟨g, 0, none⟩ = some _ := hG1.bk.cell 0
  have d1' : u.cell? ⟨g, 1, none⟩ = some _ := hG1.bk.cell 1
  have dk : u.cell? ⟨w.heap.size, 0, none⟩ = some (.int .i64 1) := hTb.cell 0
  have dx : u.cell? ⟨w.heap.size, 1, none⟩ = some (.string X) := hTb.cell 1
  have dt := hf1.cell CT.out (fun x => x)
  have hwr : IntKind.i64.wrap (r.length : Int) = (r.length : Int) := IntWalk.i64_in _ ⟨by omega, by omega⟩
  clear hu hG1 hTb
  go_quiet (fail)
  go_wp2
  go_ret
  first | exact ⟨rfl, hf1.no.drewN _, fun e => by cases e⟩ | exact ⟨rfl, hf1.no.drewN _⟩
set_option maxHeartbeats 4000000 in
set_option maxRecDepth 20000 in
theorem r_open0_name (X Y : ByteArray) (A : Option Addr) (n c : Nat) (em : Bool) (t : Tok) (w : World) (hG : GrV w base g v1 v2 v3 v4 xs G) (ho : Okg G) (h0 : G.opn = []) (ht : topG G = -1) (hk : t.kind = 1) (hX : X.data.toList = t.name) (h1 : t.name = []) :
    Calls Tryz.prog 19 #[.pointer (some ⟨g, 0, none⟩), .agg #[.int .i64 1, .string X, .string Y, .slice A n c, .bool em]] w fun e w' => e = .returned (.int .i64 (takeE G t)) ∧ Fr (fun i => base ≤ i) w w' ∧ (takeE G t = 0 → GrT w' base g (takeS G t)) := by
  have hE : takeE G t = 9 := by
    unfold takeE
    rw [if_pos hk, if_pos h1]
  rw [hE]
  obtain ⟨A2, c2, rfl⟩ := hG.none_ h0
  obtain ⟨A1, d1, rfl, hd1⟩ := hG.len1
  have c1 : ∀ o, (w.alloc o).cell? ⟨g, 1, none⟩ = some (.slice A2 0 c2) := fun o => (hG.bk.no ((Fr.refl No w).alloc o)).cell 1
  have c0 : ∀ o, (w.alloc o).cell? ⟨g, 0, none⟩ = some (.slice A1 G.l.length d1) := fun o => (hG.bk.no ((Fr.refl No w).alloc o)).cell 0
  have hXe : (X.toList == []) = true := by rw [beq_iff_eq, ba_list, hX]; exact h1
  clear hX h1 hk
  clear hG hE ht h0 ho
  go_enter Tryz.func19, Tryz.ntmps19
  go_wp2
  go_ret
  first | exact ⟨rfl, (Fr.refl _ w).alloc _, fun e => by cases e⟩ | exact ⟨rfl, (Fr.refl _ w).alloc _⟩
set_option maxHeartbeats 4000000 in
set_option maxRecDepth 20000 in
theorem r_open0_two (X Y : ByteArray) (A : Option Addr) (n c : Nat) (em : Bool) (t : Tok) (w : World) (hG : GrV w base g v1 v2 v3 v4 xs G) (ho : Okg G) (h0 : G.opn = []) (ht : topG G = -1) (hk : t.kind = 1) (hX : X.data.toList = t.name) (h1 : t.name ≠ []) (h2 : 0 < G.l.length) :
    Calls Tryz.prog 19 #[.pointer (some ⟨g, 0, none⟩), .agg #[.int .i64 1, .string X, .string Y, .slice A n c, .bool em]] w fun e w' => e = .returned (.int .i64 (takeE G t)) ∧ Fr (fun i => base ≤ i) w w' ∧ (takeE G t = 0 → GrT w' base g (takeS G t)) := by
  have hE : takeE G t = 10 := by
    unfold takeE
    rw [if_pos hk, if_neg h1, if_pos ⟨by omega, h2⟩]
  rw [hE]
  obtain ⟨A2, c2, rfl⟩ := hG.none_ h0
  obtain ⟨A1, d1, rfl, hd1⟩ := hG.len1
  have c1 : ∀ o, (w.alloc o).cell? ⟨g, 1, none⟩ = some (.slice A2 0 c2) := fun o => (hG.bk.no ((Fr.refl No w).alloc o)).cell 1
  have c0 : ∀ o, (w.alloc o).cell? ⟨g, 0, none⟩ = some (.slice A1 G.l.length d1) := fun o => (hG.bk.no ((Fr.refl No w).alloc o)).cell 0
  have hXe : (X.toList == []) = false := by rw [beq_eq_false_iff_ne, ba_list, hX]; exact h1
  have hlI : (0 : Int) < (G.l.length : Int) := by omega
  clear hX h1 hk h2
  clear hG hE ht h0 ho
  go_enter Tryz.func19, Tryz.ntmps19
  go_wp2
  go_ret
  first | exact ⟨rfl, (Fr.refl _ w).alloc _, fun e => by cases e⟩ | exact ⟨rfl, (Fr.refl _ w).alloc _⟩
set_option maxHeartbeats 4000000 in
set_option maxRecDepth 20000 in
theorem r_else1 (X Y : ByteArray) (A : Option Addr) (n c : Nat) (em : Bool) (t : Tok) (w : World) (hG : GrV w base g v1 v2 v3 v4 xs G) (ho : Okg G) {k : Nat} {r : List Int} (hr : G.opn = r ++ [(k : Int)]) (ht : topG G = (k : Int)) (hkl : k < G.l.length) (K : Int) (hk : t.kind = K) (k1 : K ≠ 1) (k2 : K ≠ 2) (k3 : K ≠ 3) :
    Calls Tryz.prog 19 #[.pointer (some ⟨g, 0, none⟩), .agg #[.int .i64 K, .string X, .string Y, .slice A n c, .bool em]] w fun e w' => e = .returned (.int .i64 (takeE G t)) ∧ Fr (fun i => base ≤ i) w w' ∧ (takeE G t = 0 → GrT w' base g (takeS G t)) := by
  have c1 : ∀ o, (w.alloc o).cell? ⟨g, 1, none⟩ = some v2 := fun o => (hG.bk.no ((Fr.refl No w).alloc o)).cell 1
  have hE : takeE G t = 9 := by
    unfold takeE
    rw [if_neg (by omega), if_neg (by omega), if_neg (by omega)]
  rw [hE]
  obtain ⟨b2, c2, rfl, ct, hrl⟩ := hG.top k r hr
  have ct0 : ∀ o, (w.alloc o).cell? ⟨b2, r.length, none⟩ = some (.int .i64 (k : Int)) := fun o => ((Fr.refl No w).alloc o).cell ct (fun x => x)
  obtain ⟨A1, d1, rfl, hd1⟩ := hG.len1
  have htop := ho.top
  have hrn : G.opn.length = r.length + 1 := by rw [hr]; simp
  have hdp := ho.deep
  have hkI : ¬ (k : Int) < 0 := by omega
  have e1 : (K == 1) = false := by rw [beq_eq_false_iff_ne]; exact k1
  have e2 : (K == 2) = false := by rw [beq_eq_false_iff_ne]; exact k2
  have e3 : (K == 3) = false := by rw [beq_eq_false_iff_ne]; exact k3
  clear hk k1 k2 k3
  have HG := Lib.hid hG; have CT := Lib.hid ct
  clear hG ct hE ht hr ho hrn
  go_enter Tryz.func19, Tryz.ntmps19
  go_wp2
  go_name_world u hu
  have H1 := HG.out.start K X Y A n c em _ hu
  clear ct0 c1
  obtain ⟨hG1, hTb, hf1⟩ := H1
  have d0 : u.cell? ⟨g, 0, none⟩ = some _ := hG1.bk.cell 0
  have d1' : u.cell? ⟨g, 1, none⟩ = some _ := hG1.bk.cell 1
  have dk : u.cell? ⟨w.heap.size, 0, none⟩ = some (.int .i64 K) := hTb.cell 0
  have dx : u.cell? ⟨w.heap.size, 1, none⟩ = some (.string X) := hTb.cell 1
  have dt := hf1.cell CT.out (fun x => x)
  have hwr : IntKind.i64.wrap (r.length : Int) = (r.length : Int) := IntWalk.i64_in _ ⟨by omega, by omega⟩
  clear hu hG1 hTb
  go_quiet (fail)
  go_wp2
  go_ret
  first | exact ⟨rfl, hf1.no.drewN _, fun e => by cases e⟩ | exact ⟨rfl, hf1.no.drewN _⟩
set_option maxHeartbeats 4000000 in
set_option maxRecDepth 20000 in
theorem r_else0 (X Y : ByteArray) (A : Option Addr) (n c : Nat) (em : Bool) (t : Tok) (w : World) (hG : GrV w base g v1 v2 v3 v4 xs G) (ho : Okg G) (h0 : G.opn = []) (ht : topG G = -1) (K : Int) (hk : t.kind = K) (k1 : K ≠ 1) (k2 : K ≠ 2) (k3 : K ≠ 3) :
    Calls Tryz.prog 19 #[.pointer (some ⟨g, 0, none⟩), .agg #[.int .i64 K, .string X, .string Y, .slice A n c, .bool em]] w fun e w' => e = .returned (.int .i64 (takeE G t)) ∧ Fr (fun i => base ≤ i) w w' ∧ (takeE G t = 0 → GrT w' base g (takeS G t)) := by
  have hE : takeE G t = 9 := by
    unfold takeE
    rw [if_neg (by omega), if_neg (by omega), if_neg (by omega)]
  rw [hE]
  obtain ⟨A2, c2, rfl⟩ := hG.none_ h0
  obtain ⟨A1, d1, rfl, hd1⟩ := hG.len1
  have c1 : ∀ o, (w.alloc o).cell? ⟨g, 1, none⟩ = some (.slice A2 0 c2) := fun o => (hG.bk.no ((Fr.refl No w).alloc o)).cell 1
  have c0 : ∀ o, (w.alloc o).cell? ⟨g, 0, none⟩ = some (.slice A1 G.l.length d1) := fun o => (hG.bk.no ((Fr.refl No w).alloc o)).cell 0
  have e1 : (K == 1) = false := by rw [beq_eq_false_iff_ne]; exact k1
  have e2 : (K == 2) = false := by rw [beq_eq_false_iff_ne]; exact k2
  have e3 : (K == 3) = false := by rw [beq_eq_false_iff_ne]; exact k3
  clear hk k1 k2 k3
  clear hG hE ht h0 ho
  go_enter Tryz.func19, Tryz.ntmps19
  go_wp2
  go_ret
  first | exact ⟨rfl, (Fr.refl _ w).alloc _, fun e => by cases e⟩ | exact ⟨rfl, (Fr.refl _ w).alloc _⟩
end Go.Proofs.YthkjmbkfcnehoaaGreatDoor
