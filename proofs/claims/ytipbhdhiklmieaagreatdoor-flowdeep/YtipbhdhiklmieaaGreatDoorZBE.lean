/- FlowDeep, walked. -/
import Derived.Test.YtipbhdhiklmieaaGreatDoorZBD
import Derived.Laws.Concat
set_option linter.unusedVariables false
set_option linter.unusedSimpArgs false
set_option maxRecDepth 100000
set_option maxHeartbeats 8000000
namespace Go.Proofs.YtipbhdhiklmieaaGreatDoor
open Go.RowKit Go.Shelf
open P3 (badP)

theorem addS (a b : ByteArray) (ha : a.size ≤ 2000) (hb : b.size ≤ 2000) (w : World) : (Op.stringOp .add a b).run Tryz.prog w = .ok (.string (a ++ b)) w := run_string_add_sum w a b (by omega)
theorem apZ (a b : ByteArray) : (a ++ b).size = a.size + b.size := ByteArray.size_append ..
theorem bI_app (a b : ByteArray) : bI (a ++ b) = bI a ++ bI b := by
 unfold bI
 rw [ByteArray.data_append]
 simp
def repS (a : ByteArray) : Nat → ByteArray
 | 0 => ⟨#[]⟩
 | k + 1 => repS a k ++ a
theorem repS_size (a : ByteArray) : ∀ k, (repS a k).size = k * a.size
 | 0 => by rw [Nat.zero_mul]; rfl
 | k + 1 => by rw [repS, apZ, repS_size a k, Nat.succ_mul]
theorem repS_one (c : UInt8) : ∀ k, bI (repS ⟨#[c]⟩ k) = List.replicate k (c.toNat : Int)
 | 0 => rfl
 | k + 1 => by rw [repS, bI_app, repS_one c k, List.replicate_succ']; rfl
theorem brcA_snoc : ∀ n, brcA n ++ [123, 97, 58, 32] = brcA (n + 1)
 | 0 => rfl
 | n + 1 => by
  rw [brcA, brcA, ← brcA_snoc n]
  rfl
theorem repS_brc : ∀ k, bI (repS ⟨#[123, 97, 58, 32]⟩ k) = brcA k
 | 0 => rfl
 | k + 1 => by rw [repS, bI_app, repS_brc k, ← brcA_snoc k]; rfl
def wayA (b : Bool) : ByteArray := if b then ⟨#[123, 97, 58, 32]⟩ else ⟨#[91]⟩
def wayB (b : Bool) : ByteArray := if b then ⟨#[125]⟩ else ⟨#[93]⟩
def wayT (b : Bool) (n : Nat) : List Int := if b then brcT n else brkT n
theorem way_text (b : Bool) (n : Nat) : bI (repS (wayA b) n ++ repS (wayB b) n) = wayT b n := by
 rw [bI_app]
 cases b
 ·show bI (repS ⟨#[91]⟩ n) ++ bI (repS ⟨#[93]⟩ n) = brkT n
  rw [repS_one, repS_one]
  rfl
 ·show bI (repS ⟨#[123, 97, 58, 32]⟩ n) ++ bI (repS ⟨#[125]⟩ n) = brcT n
  rw [repS_brc, repS_one]
  rfl
theorem way_sz (b : Bool) : (wayA b).size ≤ 4 ∧ (wayB b).size = 1 := by cases b <;> decide
theorem way_len (b : Bool) (n : Nat) : (wayT b n).length = n * (wayA b).size + n * (wayB b).size := by
 rw [← way_text, bI_len, apZ, repS_size, repS_size]
theorem way_deep (b : Bool) (n : Nat) (d : Int) (hn : 0 < n) : ((n : Int) + d > 200 → ∃ f, ansW (wayT b n) d f = some (8, 0, 0, [])) ∧ ((n : Int) + d ≤ 200 → ∃ f ev, ansW (wayT b n) d f = some (0, 0, (((wayT b n).length : Nat) : Int), ev)) := by
 cases b
 ·obtain ⟨h1, h2⟩ := deep_brk n d hn
  refine ⟨h1, fun h => ?_⟩
  have := brk_len n
  show ∃ f ev, ansW (brkT n) d f = some (0, 0, (((brkT n).length : Nat) : Int), ev)
  rw [this]
  exact h2 h
 ·obtain ⟨h1, h2⟩ := deep_brc n d hn
  refine ⟨h1, fun h => ?_⟩
  have := brc_len n
  show ∃ f ev, ansW (brcT n) d f = some (0, 0, (((brcT n).length : Nat) : Int), ev)
  rw [this]
  exact h2 h
theorem mem_brcA : ∀ (n : Nat) (x : Int), x ∈ brcA n → x = 123 ∨ x = 97 ∨ x = 58 ∨ x = 32
 | 0, x, h => by cases h
 | n + 1, x, h => by
  rw [brcA] at h
  rcases List.mem_cons.1 h with rfl | h
  ·exact .inl rfl
  rcases List.mem_cons.1 h with rfl | h
  ·exact .inr (.inl rfl)
  rcases List.mem_cons.1 h with rfl | h
  ·exact .inr (.inr (.inl rfl))
  rcases List.mem_cons.1 h with rfl | h
  ·exact .inr (.inr (.inr rfl))
  exact mem_brcA n x h
theorem way_mem (b : Bool) (n : Nat) (x : Int) (h : x ∈ wayT b n) : x = 123 ∨ x = 97 ∨ x = 58 ∨ x = 32 ∨ x = 125 ∨ x = 91 ∨ x = 93 := by
 cases b
 ·rcases List.mem_append.1 (show x ∈ List.replicate n 91 ++ List.replicate n 93 from h) with h | h
  ·have := (List.mem_replicate.1 h).2; omega
  ·have := (List.mem_replicate.1 h).2; omega
 ·rcases List.mem_append.1 (show x ∈ brcA n ++ List.replicate n 125 from h) with h | h
  ·have := mem_brcA n x h; omega
  ·have := (List.mem_replicate.1 h).2; omega
theorem way_asc (b : Bool) (n : Nat) : Asc (wayT b n) ∧ (wayT b n).any badP = false := by
 refine ⟨fun x hx => ?_, ?_⟩
 ·have := way_mem b n x hx
  omega
 ·rw [List.any_eq_false]
  intro x hx
  have := way_mem b n x hx
  rcases this with rfl | rfl | rfl | rfl | rfl | rfl | rfl <;> decide
theorem way_one (b : Bool) (n : Nat) (hn : 0 < n) : (lpsO (wayT b n)).length ≤ 600 := by
 have h0 : 0 < (wayT b n).length := by
  rw [way_len, (way_sz b).2]
  omega
 have h32 : iAt (wayT b n) 0 ≠ 32 := by
  cases b
  ·rw [show wayT false n = brkT n from rfl, brk_a hn]; decide
  ·rw [show wayT true n = brcT n from rfl, show iAt (brcT n) 0 = 123 from (brcA_at (List.replicate n 125) n 0 hn).1]; decide
 rw [lps_one h0 (fun j hj => ?_) h32]
 ·simp
 ·have hm : iAt (wayT b n) j ∈ wayT b n := by
   rw [show iAt (wayT b n) j = (wayT b n)[j] by simp [iAt, hj]]
   exact List.getElem_mem hj
  have := way_mem b n _ hm
  rcases this with h | h | h | h | h | h | h <;> rw [h] <;> decide
end Go.Proofs.YtipbhdhiklmieaaGreatDoor
namespace Go.Proofs.YtipbhdhiklmieaaGreatDoor
open Go.RowKit Go.Shelf

theorem deep_walk (b : Bool) (N : Nat) (d : Int) (w : World) (hN : 0 < N) (hN2 : N ≤ 250) (hd0 : 0 ≤ d) (hd1 : d ≤ 250) (hT : P7.Tab w) : Calls Tryz.prog 7 #[.int .i64 (N : Nat), .int .i64 d, .bool b] w fun e w' => e = .returned (.bool true) ∧ Below w.heap.size w w' := by
 have h1 : ¬ (N : Int) < 1 := by omega
 have h2 : ¬ (250 : Int) < (N : Int) := by omega
 have h3 : ¬ d < 0 := by omega
 have h4 : ¬ (250 : Int) < d := by omega
 have QA : Hid (∀ k, k ≤ 250 → (repS (wayA b) k).size ≤ 1000 ∧ (repS (wayB b) k).size ≤ 250) := fun k hk => ⟨by rw [repS_size]; have := Nat.mul_le_mul hk (way_sz b).1; omega, by rw [repS_size, (way_sz b).2]; omega⟩
 obtain ⟨hsA, hsB⟩ := QA.out N hN2
 have TD := addS (repS (wayA b) N) (repS (wayB b) N) (by omega) (by omega)
 have hlen : (wayT b N).length = (repS (wayA b) N).size + (repS (wayB b) N).size := by rw [← way_text, bI_len, apZ]
 obtain ⟨hasc, hbad⟩ := way_asc b N
 have LN : ∀ W : World, Calls Tryz.prog 16 #[.string (repS (wayA b) N ++ repS (wayB b) N)] W fun e w' => ∃ p n c, e = .returned (.slice p n c) ∧ Got w' p n (wayT b N) ∧ Below W.heap.size W w' := fun W => by
  refine (Lines_any (repS (wayA b) N ++ repS (wayB b) N) (by rw [apZ]; omega) (by rw [way_text]; exact hasc) (by rw [way_text]; exact hbad) W).mono ?_
  rintro e w' ⟨p, M, c, rfl, hls, hmp, -, -, hb⟩
  rw [way_text] at hmp
  exact ⟨p, M.length, c, rfl, ⟨M, rfl, hls, hmp⟩, hb⟩
 have HL : Hid ((lpsO (wayT b N)).length ≤ 600 ∧ (wayT b N).length ≤ 1300) := ⟨way_one b N hN, by omega⟩
 have HD : Hid _ := way_deep b N d hN
 have AL := alive_any w hT
 have HT : Hid (P7.Tab w) := hT
 have q1 : (⟨#[91]⟩ : ByteArray).size = 1 := rfl
 have q2 : (⟨#[93]⟩ : ByteArray).size = 1 := rfl
 have q3 : (⟨#[123, 97, 58, 32]⟩ : ByteArray).size = 4 := rfl
 have q4 : (⟨#[125]⟩ : ByteArray).size = 1 := rfl
 obtain ⟨A, hA⟩ : ∃ A, wayA b = A := ⟨_, rfl⟩
 obtain ⟨B, hB⟩ : ∃ B, wayB b = B := ⟨_, rfl⟩
 rw [hA] at QA hsA TD hlen LN
 rw [hB] at QA hsB TD hlen LN
 have HA : Hid (wayA b = A) := hA
 have HB : Hid (wayB b = B) := hB
 have HZ : Hid ((wayT b N).length = (repS A N).size + (repS B N).size) := hlen
 generalize wayT b N = t at LN HL HD HZ
 clear hasc hbad hlen hT hA hB
 cases b
 all_goals
  go_enter Tryz.func7, Tryz.ntmps7
  go_wp2_with fail
  refine AL.mono ?_
  clear AL
  rintro e w1 ⟨rfl, hB1⟩
  go_wp2
  go_loopw [8, 9, 10] (fun sa sb i wr => ∃ (k : Nat), k ≤ N ∧ sa = .string (repS A k) ∧ sb = .string (repS B k) ∧ i = .int .i64 (k : Nat) ∧ wr = w1) (fun _ _ i _ => N - (intOf i).toNat)
  case atStart => exact ⟨0, Nat.zero_le _, rfl, rfl, rfl, rfl⟩
  case round =>
   obtain ⟨k, hk, rfl, rfl, rfl, rfl⟩ := hrel
   by_cases hlt : k < N
   ·have hki : (k : Int) < (N : Int) := by omega
    obtain ⟨zA, zB⟩ := QA.out k (by omega)
    clear LN TD
    go_wp2
    go_roundw
    case rel => exact ⟨k + 1, by omega, by rw [repS, ← HA.out]; rfl, by rw [repS, ← HB.out]; rfl, by go_num, trivial⟩
    case measure => simp [intOf]; omega
   ·obtain rfl : k = N := by omega
    go_wp2_with fail
    refine (LN _).mono ?_
    clear LN
    rintro e W1 ⟨p1, n1, c1, rfl, hg1, hb1⟩
    have hw1 := hB1.trans (hb1.mono hB1.size)
    have NW := New_txt c1 hg1 HL.out.1 HL.out.2
    clear hg1 hb1 TD
    go_wp2_with fail
    refine NW.mono ?_
    clear NW
    rintro e W2 ⟨rb, rfl, hr2, hb2⟩
    have hw2 := hw1.trans (hb2.mono hw1.size)
    have NO := fun {f : Nat} {e i k : Int} {ev : List Ev} => Node_rdy (f := f) (e := e) (i := i) (k := k) (ev := ev) hr2 HL.out.1 HL.out.2 (HT.out.on hw2) hd0 (by omega : d ≤ 1048576)
    by_cases hx : (k : Int) + d > 200
    ·obtain ⟨f, hans⟩ := HD.out.1 hx
     have NO1 := NO hans
     have hx' : (200 : Int) < (k : Int) + d := hx
     clear NO HD HL HT hr2
     go_wp2_with fail
     refine NO1.mono ?_
     clear NO1
     rintro e W3 ⟨p3, c3, rfl, -, hb3⟩
     have hw3 := hw2.trans (hb3.mono hw2.size)
     go_wp2_with (first | (go_at_call 14; refine (num_any _ _).mono ?_; rintro e W4 ⟨rfl, rfl⟩))
     go_ret
     exact ⟨rfl, hw3⟩
    ·obtain ⟨f, ev, hans⟩ := HD.out.2 (by omega)
     have NO1 := NO hans
     have hx' : ¬ (200 : Int) < (k : Int) + d := by omega
     rw [HZ.out, show (((repS A k).size + (repS B k).size : Nat) : Int) = ((repS A k).size : Int) + ((repS B k).size : Int) by push_cast; rfl] at NO1
     have hwr : wrap64 (((repS A k).size : Int) + ((repS B k).size : Int)) = ((repS A k).size : Int) + ((repS B k).size : Int) := by unfold wrap64; omega
     clear NO HD HL HT hr2
     go_wp2_with fail
     refine NO1.mono ?_
     clear NO1
     rintro e W3 ⟨p3, c3, rfl, -, hb3⟩
     have hw3 := hw2.trans (hb3.mono hw2.size)
     go_wp2_with (first | (go_at_call 14; refine (num_any _ _).mono ?_; rintro e W4 ⟨rfl, rfl⟩))
     go_ret
     exact ⟨ret_bool (by simp [hwr]), hw3⟩
theorem deep_out (a d : Int) (b : Bool) (w : World) (h : ¬ (1 ≤ a ∧ a ≤ 250 ∧ 0 ≤ d ∧ d ≤ 250)) (hT : P7.Tab w) : Calls Tryz.prog 7 #[.int .i64 a, .int .i64 d, .bool b] w fun e w' => e = .returned (.bool true) ∧ Below w.heap.size w w' := by
 have AL := alive_any w hT
 clear hT
 by_cases h1 : a < 1
 ·clear h
  go_enter Tryz.func7, Tryz.ntmps7
  go_wp2_with fail
  refine AL.mono ?_
  clear AL
  rintro e w1 ⟨rfl, hB1⟩
  go_wp2
  go_ret
  exact ⟨rfl, hB1⟩
 ·by_cases h2 : 250 < a
  ·clear h
   go_enter Tryz.func7, Tryz.ntmps7
   go_wp2_with fail
   refine AL.mono ?_
   clear AL
   rintro e w1 ⟨rfl, hB1⟩
   go_wp2
   go_ret
   exact ⟨rfl, hB1⟩
  ·by_cases h3 : d < 0
   ·clear h
    go_enter Tryz.func7, Tryz.ntmps7
    go_wp2_with fail
    refine AL.mono ?_
    clear AL
    rintro e w1 ⟨rfl, hB1⟩
    go_wp2
    go_ret
    exact ⟨rfl, hB1⟩
   ·have h4 : 250 < d := by omega
    clear h
    go_enter Tryz.func7, Tryz.ntmps7
    go_wp2_with fail
    refine AL.mono ?_
    clear AL
    rintro e w1 ⟨rfl, hB1⟩
    go_wp2
    go_ret
    exact ⟨rfl, hB1⟩
theorem FlowDeep_any (a d : Int) (b : Bool) (w : World) (hT : P7.Tab w) : Calls Tryz.prog 7 #[.int .i64 a, .int .i64 d, .bool b] w fun e w' => e = .returned (.bool true) ∧ Below w.heap.size w w' := by
 by_cases h : 1 ≤ a ∧ a ≤ 250 ∧ 0 ≤ d ∧ d ≤ 250
 ·obtain ⟨i, rfl⟩ := Int.eq_ofNat_of_zero_le (show 0 ≤ a by omega)
  exact deep_walk b i d w (by omega) (by omega) h.2.2.1 h.2.2.2 hT
 ·exact deep_out a d b w h hT
end Go.Proofs.YtipbhdhiklmieaaGreatDoor
