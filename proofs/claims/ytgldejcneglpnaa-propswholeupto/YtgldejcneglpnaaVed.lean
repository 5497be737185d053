/- PropsVersions, as it runs. -/
import Derived.Test.YtgldejcneglpnaaVep
import Derived.Laws.Concat
set_option linter.unusedVariables false
set_option linter.unusedSimpArgs false
namespace Go.Proofs.Ytgldejcneglpnaa
open Go.RowKit Go.Shelf

theorem data_app (a b : ByteArray) : (a ++ b).data.toList = a.data.toList ++ b.data.toList := by
  obtain ⟨⟨a⟩⟩ := a
  obtain ⟨⟨b⟩⟩ := b
  rw [ByteArray.mk_append_mk]
theorem one_digit (d : Nat) (h : d < 10) : (⟨#[48, 49, 50, 51, 52, 53, 54, 55, 56, 57]⟩ : ByteArray).extract d (d + 1) = ⟨#[UInt8.ofNat (48 + d)]⟩ := by
  have hd : d = 0 ∨ d = 1 ∨ d = 2 ∨ d = 3 ∨ d = 4 ∨ d = 5 ∨ d = 6 ∨ d = 7 ∨ d = 8 ∨ d = 9 := by omega
  rcases hd with rfl | rfl | rfl | rfl | rfl | rfl | rfl | rfl | rfl | rfl <;> rfl
/-- A text of digits. -/
structure Dgb (x : ByteArray) (k : Nat) : Prop where
  pos : 0 < x.size
  dig : ∀ b ∈ x.data.toList, 48 ≤ b.toNat ∧ b.toNat ≤ 57
  short : x.size ≤ k
theorem dgb_one (d k : Nat) (h : d < 10) (hk : 0 < k) : Dgb ⟨#[UInt8.ofNat (48 + d)]⟩ k := by
  refine ⟨show 0 < 1 by decide, fun b hb => ?_, hk⟩
  simp at hb
  subst hb
  simp
  omega
theorem dgb_more {x : ByteArray} {d k : Nat} (hx : Dgb x k) (h : d < 10) : Dgb (x ++ ⟨#[UInt8.ofNat (48 + d)]⟩) (k + 1) := by
  have h1 := dgb_one d 1 h (by decide)
  have hs : (x ++ ⟨#[UInt8.ofNat (48 + d)]⟩).size = x.size + 1 := by rw [ByteArray.size_append]; rfl
  refine ⟨by omega, fun b hb => ?_, by have := hx.short; omega⟩
  rw [data_app] at hb
  rcases List.mem_append.1 hb with hb | hb
  · exact hx.dig b hb
  · exact h1.dig b hb

set_option maxRecDepth 100000 in
set_option maxHeartbeats 1000000 in
theorem digits_any : ∀ (k n : Nat), n < 10 ^ (k + 1) → k ≤ 18 → (n : Int) ≤ 9223372036854775807 → ∀ w : World,
    Calls Try.prog 20 #[.int .i64 n] w fun e w' => ∃ x : ByteArray, e = .returned (.string x) ∧ Dgb x (k + 1) ∧ w' = w := by
  intro k
  induction k with
  | zero =>
    intro n h hk hn w
    have h9 : ¬ (9 : Int) < n := by omega
    have S := one_digit n (by omega)
    have hm' : (n : Int) % 10 = n := by omega
    have HD : Hid (Dgb ⟨#[UInt8.ofNat (48 + n)]⟩ (0 + 1)) := dgb_one n 1 (by omega) (by decide)
    generalize UInt8.ofNat (48 + n) = x at S HD
    clear h
    go_enter Try.func20, Try.ntmps20
    go_wp2
    go_ret
    exact ⟨_, rfl, HD.out, rfl⟩
  | succ k ih =>
    intro n h hk hn w
    by_cases h9 : (9 : Int) < n
    · have R := ih (n / 10) (by rw [Nat.pow_succ] at h; omega) (by omega) (by omega) w
      have hq : ((n / 10 : Nat) : Int) = (n : Int) / 10 := by omega
      have hx : ((n % 10 : Nat) : Int) = (n : Int) % 10 := by omega
      have S := one_digit (n % 10) (by omega)
      have HD : Hid (∀ x, Dgb x (k + 1) → Dgb (x ++ ⟨#[UInt8.ofNat (48 + n % 10)]⟩) (k + 1 + 1)) := fun x hx => dgb_more hx (by omega)
      rw [hq] at R
      have ho : (⟨#[UInt8.ofNat (48 + n % 10)]⟩ : ByteArray).size = 1 := rfl
      have AD : Hid (∀ (x : ByteArray), Dgb x (k + 1) → ∀ w, (Op.stringOp .add x ⟨#[UInt8.ofNat (48 + n % 10)]⟩).run Try.prog w = .ok (.string (x ++ ⟨#[UInt8.ofNat (48 + n % 10)]⟩)) w) := fun x hx w => run_string_add_sum w x _ (by have := hx.short; omega)
      generalize UInt8.ofNat (48 + n % 10) = y at S HD AD
      clear ih hx hq ho h
      go_enter Try.func20, Try.ntmps20
      go_wp2_with (first | (go_at_call 20; refine R.mono ?_; rintro e w ⟨x, rfl, hd, rfl⟩; have A := AD.out x hd))
      go_ret
      exact ⟨_, rfl, HD.out _ hd, rfl⟩
    · have S := one_digit n (by omega)
      have hm' : (n : Int) % 10 = n := by omega
      have HD : Hid (Dgb ⟨#[UInt8.ofNat (48 + n)]⟩ (k + 1 + 1)) := dgb_one n (k + 1 + 1) (by omega) (by omega)
      generalize UInt8.ofNat (48 + n) = x at S HD
      clear h ih
      go_enter Try.func20, Try.ntmps20
      go_wp2
      go_ret
      exact ⟨_, rfl, HD.out, rfl⟩

def gB (n : Nat) : ByteArray := ⟨(List.replicate n 32).toArray⟩
theorem gB_size (n : Nat) : (gB n).size = n := by simp [gB, ByteArray.size]
theorem gB_data (n : Nat) : (gB n).data.toList = List.replicate n 32 := by simp [gB]
theorem gB_more (n : Nat) : gB n ++ ⟨#[32]⟩ = gB (n + 1) := by
  unfold gB
  rw [ByteArray.mk_append_mk]
  rw [List.replicate_succ']

/-- A sum of texts, by a name. -/
theorem add_str (a b : ByteArray) (h : a.size + b.size ≤ 1000) : ∃ s : ByteArray, (s.data.toList = a.data.toList ++ b.data.toList ∧ s.size = a.size + b.size) ∧ ∀ w, (Op.stringOp .add a b).run Try.prog w = .ok (.string s) w :=
  ⟨a ++ b, ⟨data_app a b, by rw [ByteArray.size_append]⟩, fun w => run_string_add_sum w a b (by omega)⟩

theorem zs_app (a b : List UInt8) : zs (a ++ b) = zs a ++ zs b := by simp [zs]
theorem ver_zs (n : Nat) (x z tl : List UInt8) : zs ([37, 89, 65, 77, 76] ++ (List.replicate n 32 ++ (x ++ ([46] ++ (z ++ tl))))) = verT n (zs x) (zs z) (zs tl) := by
  rw [zs_app, zs_app, zs_app, zs_app, zs_app]
  unfold verT y4
  have h1 : zs (List.replicate n 32) = List.replicate n 32 := by unfold zs; rw [List.map_replicate]; rfl
  rw [h1]
  rfl
/-- What Directive tells of a text that is ASCII, and how it comes there. -/
theorem dir_text (s : ByteArray) (hs : s.size ≤ 1000) (ha : ∀ b ∈ s.data.toList, b.toNat < 128) (w : World) :
    Calls Try.prog 17 #[.string s] w fun e w' => ∃ a k c ok, e = .returned (.tuple #[.slice a k c, .bool ok]) ∧ Below w.heap.size w w' ∧ ∀ W, Below w'.heap.size w' W → Calls Try.prog 13 #[.slice a k c] W fun e w2 => e = .returned (dirV (dirP (zs s.data.toList))) ∧ Below W.heap.size W w2 := by
  refine (Text_any s w (by omega)).mono ?_
  rintro e w' ⟨v, rfl, ho, hb⟩
  obtain ⟨a, k, c, rfl⟩ := ownsRow_form ho
  obtain ⟨hI, hk, hkc, hcm⟩ := is_of_row ho
  obtain ⟨h1, h2⟩ := pts_ascii (l := s.data.toList) (fun j hj => by
    have := ha (s.data.toList[j]) (List.getElem_mem hj)
    unfold bt
    rw [List.getElem?_eq_getElem hj]
    exact this)
  rw [h2] at hI hk
  have hl : (zs s.data.toList).length ≤ 1000000 := by rw [zs_len]; simp; omega
  exact ⟨a, k, c, _, rfl, hb, fun W hW => Directive_any a _ k c W hk hl (by omega) hcm (hI.on hW)⟩
theorem dgb_dg {x : ByteArray} {k : Nat} (h : Dgb x k) (hk : k ≤ 20) : Dg x.data.toList := ⟨by have := h.pos; simpa using this, h.dig, by have := h.short; simp; omega⟩
theorem dgb_txt {x : ByteArray} {k : Nat} (h : Dgb x k) : txt (zs x.data.toList) = x := by
  rw [txt_ascii _ (fun b hb => by have := h.dig b hb; omega)]

/-- The texts that the law awaits: whatever the blanks and the tail. -/
theorem ver_told {n i : Nat} {xb zb s : ByteArray} {tl : List UInt8} (hx : Dgb xb 19) (hz : Dgb zb 19) (hn : n ≤ 10) (hs : s.data.toList = [37, 89, 65, 77, 76] ++ (List.replicate n 32 ++ (xb.data.toList ++ ([46] ++ (zb.data.toList ++ tl))))) (htl : tl.length ≤ 4) (hta : ∀ b ∈ tl, b.toNat < 128) (htd : ∀ c r, zs tl = c :: r → digitP c = false) :
    s.size ≤ 1000 ∧ (∀ b ∈ s.data.toList, b.toNat < 128) ∧ (n = 0 → dirP (zs s.data.toList) = none ∨ ∃ y : ByteArray, y ≠ yamlB ∧ dirP (zs s.data.toList) = some (y, ⟨#[]⟩, ⟨#[]⟩)) ∧ (0 < n → dirP (zs s.data.toList) = if tailP (zs tl) = false then none else some (yamlB, xb, zb)) := by
  have h1 := hx.short
  have h2 := hz.short
  have hl : s.size = s.data.toList.length := by simp
  refine ⟨?_, fun b hb => ?_, fun h => ?_, fun h => ?_⟩
  · rw [hl, hs]
    simp
    omega
  · rw [hs] at hb
    simp only [List.mem_append] at hb
    rcases hb with hb | hb | hb | hb | hb | hb
    · revert hb; revert b; decide
    · rw [List.eq_of_mem_replicate hb]; decide
    · have := hx.dig b hb; omega
    · simp at hb; subst hb; decide
    · have := hz.dig b hb; omega
    · exact hta b hb
  · subst h
    rw [hs, ver_zs]
    exact ver_none (dgb_dg hx (by decide)) (dgb_dg hz (by decide))
  · rw [hs, ver_zs, ver_dir h (dgb_dg hx (by decide)) (dgb_dg hz (by decide)) htd, dgb_txt hx, dgb_txt hz]
end Go.Proofs.Ytgldejcneglpnaa
