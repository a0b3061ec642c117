/-
  The document's Decimal, num and Text.
  The document's Text.
-/
import Derived.Test.YtmaekpfkkpkgpaaGreatDoorRB
import Derived.Test.YtmaekpfkkpkgpaaGreatDoorBTxt2
import Derived.Deep.RegionHeld3
namespace Go.Proofs.YtmaekpfkkpkgpaaGreatDoor
open Go.RowKit Go.Shelf
set_option maxRecDepth 10000

/-- A text of one byte. -/
theorem conv_one (x : Nat) (w : World) : (convert 69 9 (.slice (some ⟨w.heap.size, 0, none⟩) 1 1)).run Tryz.prog (w.alloc (.cells #[.int .u8 x] 5)) = .ok (.string ⟨#[UInt8.ofNat x]⟩) (w.alloc (.cells #[.int .u8 x] 5)) := by
  have h := run_convert_bytes_arg (w.alloc (.cells #[.int .u8 x] 5)) 69 5 Tryz.underlying69 Tryz.underlying5 w.heap.size 0 1 1 [(x : Int)] rfl (fun i hi => by
    have : i = 0 := by simp at hi; exact hi
    subst this
    exact (Row.new w [.int .u8 x] 5).cell (i := 0) rfl) 9 Tryz.underlying9
  rw [h]
  congr 1

theorem digit_small {u : Nat} (h : u < 10) : Lib.decDigits u = [UInt8.ofNat (48 + u)] := by rw [Lib.decDigits, dif_pos h]
theorem digit_big {u : Nat} (h : ¬ u < 10) : Lib.decDigits u = Lib.decDigits (u / 10) ++ [UInt8.ofNat (48 + u % 10)] := by rw [Lib.decDigits, dif_neg h]
/-- One more digit. -/
def push (s : ByteArray) (x : Nat) : ByteArray := s ++ ⟨#[UInt8.ofNat x]⟩
theorem push_text (l : List UInt8) (x : Nat) : push ⟨l.toArray⟩ x = ⟨(l ++ [UInt8.ofNat x]).toArray⟩ := by
  unfold push
  apply ByteArray.ext
  rw [ByteArray.data_append]
  simp
/-- The numeral of n. -/
def num (n : Int) : ByteArray := ⟨(Lib.itoa n).toArray⟩
theorem num_small {n : Int} (h0 : 0 ≤ n) (h : n < 10) : num n = push ⟨#[]⟩ (48 + n.toNat) := by
  have := push_text [] (48 + n.toNat)
  rw [show (⟨#[]⟩ : ByteArray) = ⟨([] : List UInt8).toArray⟩ from rfl, this]
  unfold num Lib.itoa
  rw [if_neg (by omega), digit_small (by omega)]
  rfl
theorem num_big {n : Int} (h : 10 ≤ n) : num n = push (num (n / 10)) (48 + (n % 10).toNat) := by
  unfold num
  rw [push_text]
  unfold Lib.itoa
  rw [if_neg (by omega), if_neg (by omega), digit_big (by omega)]
  have e1 : (n / 10).toNat = n.toNat / 10 := by omega
  have e2 : (n % 10).toNat = n.toNat % 10 := by omega
  rw [e1, e2]
theorem num_len {n : Int} (h0 : 0 ≤ n) (h1 : n ≤ 16777216) : (num n).size ≤ 8 := itoa_len h0 h1
theorem conv_dig (r : Int) (h0 : 0 ≤ r) (h1 : r < 10) (w : World) : (convert 69 9 (.slice (some ⟨w.heap.size, 0, none⟩) 1 1)).run Tryz.prog (w.alloc (.cells #[.int .u8 (48 + r)] 5)) = .ok (.string ⟨#[UInt8.ofNat (48 + r.toNat)]⟩) (w.alloc (.cells #[.int .u8 (48 + r)] 5)) := by
  have h := conv_one (48 + r.toNat) w
  have e : ((48 + r.toNat : Nat) : Int) = 48 + r := by omega
  rw [e] at h
  exact h
theorem one_size (x : UInt8) : (⟨#[x]⟩ : ByteArray).size = 1 := rfl
theorem num_ne (n : Int) : ((num n).toList == ([] : List UInt8)) = false := by
  rw [ByteArray.toList_eq, beq_eq_false_iff_ne]
  show (Lib.itoa n).toArray.toList ≠ []
  unfold Lib.itoa
  split
  · simp
  · intro h
    have h2 := Lib.decDigits_length n.toNat
    have h3 := Lib.nDigits_pos n.toNat
    simp at h
    rw [h] at h2
    simp at h2
    omega

set_option maxHeartbeats 2000000 in
theorem decimal_any : ∀ (k : Nat) (n : Int), n.natAbs ≤ k → 0 ≤ n → n ≤ 16777216 → ∀ w : World,
    Calls Tryz.prog 67 #[.int .i64 n] w fun ev w' => ev = .returned (.string (num n)) ∧ Hid (Below w.heap.size w w') := by
  intro k
  induction k using Nat.strongRecOn with
  | _ k ih =>
    intro n hk h0 h1 w
    have hneg : ¬ n < 0 := by omega
    obtain ⟨r, hr⟩ : ∃ r, n.tmod 10 = r := ⟨_, rfl⟩
    obtain ⟨q, hq⟩ : ∃ q, n.tdiv 10 = q := ⟨_, rfl⟩
    have t1 := Int.tmod_eq_emod_of_nonneg (a := n) (b := 10) (by omega)
    have t2 := Int.tdiv_eq_ediv_of_nonneg (a := n) (b := 10) (by omega)
    rw [hr] at t1
    rw [hq] at t2
    by_cases hs : n < 10
    · have hr0 : 0 ≤ r := by omega
      have hr1 : r < 10 := by omega
      have hq0 : q = 0 := by omega
      subst hq0
      have hE : num n = (⟨#[]⟩ : ByteArray) ++ ⟨#[UInt8.ofNat (48 + r.toNat)]⟩ := by
        have e : r = n := by omega
        rw [num_small (by omega) hs, e]; rfl
      have hc := conv_dig r hr0 hr1
      have hl := one_size (UInt8.ofNat (48 + r.toNat))
      generalize (⟨#[UInt8.ofNat (48 + r.toNat)]⟩ : ByteArray) = D at hE hc hl
      have hl2 : D.size ≤ 1 := by omega
      have HE : Hid (num n = (⟨#[]⟩ : ByteArray) ++ D) := hE
      clear t1 t2 hs ih hE hl
      go_enter Tryz.func67, Tryz.ntmps67
      go_wp2
      go_ret
      exact ⟨by rw [HE.out]; rfl, below_new _ _⟩
    · have hr0 : 0 ≤ r := by omega
      have hr1 : r < 10 := by omega
      have hqn : (q != 0) = true := by rw [bne_iff_ne]; omega
      have hqlo : -9223372036854775808 ≤ q := by omega
      have hqhi : q ≤ 9223372036854775807 := by omega
      have hqw : wrap64 q = q := by unfold wrap64; omega
      have hE : num n = num q ++ ⟨#[UInt8.ofNat (48 + r.toNat)]⟩ := by
        have e : r = n % 10 := by omega
        have e2 : q = n / 10 := by omega
        rw [num_big (by omega), ← e, ← e2, push]
      have hc := conv_dig r hr0 hr1
      have hl := one_size (UInt8.ofNat (48 + r.toNat))
      generalize (⟨#[UInt8.ofNat (48 + r.toNat)]⟩ : ByteArray) = D at hE hc hl
      have hl2 : D.size ≤ 1 := by omega
      have hI := ih (k - 1) (by omega) q (by omega) (by omega) (by omega)
      have hls := num_len (n := q) (by omega) (by omega)
      generalize num q = R at hE hI hls
      have HE : Hid (num n = R ++ D) := hE
      clear t1 t2 hs ih hE hl
      go_enter Tryz.func67, Tryz.ntmps67
      go_wp2_with (go_at_call 67; refine (hI _).mono ?_; rintro e w1 ⟨rfl, HB⟩)
      go_ret
      exact ⟨by rw [HE.out]; rfl, Below.after HB.out (below_new _ _)⟩

theorem rnum_any (n : Int) (h0 : 0 ≤ n) (h1 : n ≤ 16777216) (w : World) : Calls Tryz.prog 57 #[.int .i64 n] w fun ev w' => ev = .returned (.string (num n)) ∧ Below w.heap.size w w' := by
  have hD := decimal_any n.natAbs n (Nat.le_refl _) h0 h1
  go_enter Tryz.func57, Tryz.ntmps57
  go_wp2_with (go_at_call 67; refine (hD _).mono ?_; rintro ev w2 ⟨rfl, HB2⟩)
  go_ret
  exact ⟨rfl, HB2.out⟩
end Go.Proofs.YtmaekpfkkpkgpaaGreatDoor
namespace Go.Proofs.YtmaekpfkkpkgpaaGreatDoor
open Go.RowKit Go.Shelf
set_option maxRecDepth 10000

theorem line2_eq (a b : Int) : lineF [a, b] = Lib.itoa a ++ [32] ++ Lib.itoa b := by simp [lineF, Lib.join]
theorem line4_eq (a b c d : Int) : lineF [a, b, c, d] = Lib.itoa a ++ [32] ++ Lib.itoa b ++ [32] ++ Lib.itoa c ++ [32] ++ Lib.itoa d := by simp [lineF, Lib.join]
theorem num_bs (n : Int) : num n = bs (Lib.itoa n) := rfl
theorem row_open (acc : List UInt8) (i : Nat) (x : PB) (h : ¬ x.use = 0) (hc : x.closed = false) : bs acc ++ num i ++ ⟨#[32]⟩ ++ num x.use ++ ⟨#[32]⟩ ++ num x.used ++ ⟨#[32]⟩ ++ num x.live ++ ⟨#[10]⟩ = bs (acc ++ rowT i x) := by
  rw [show (⟨#[32]⟩ : ByteArray) = bs [32] from rfl, show (⟨#[10]⟩ : ByteArray) = bs [10] from rfl]
  simp only [num_bs, bs_append]
  unfold rowT
  rw [if_neg h, hc, line4_eq]
  simp
theorem row_shut (acc : List UInt8) (i : Nat) (x : PB) (h : ¬ x.use = 0) (hc : x.closed = true) : bs acc ++ num i ++ ⟨#[32]⟩ ++ num x.use ++ ⟨#[32]⟩ ++ num x.used ++ ⟨#[32]⟩ ++ num x.live ++ ⟨#[32, 99, 108, 111, 115, 101, 100]⟩ ++ ⟨#[10]⟩ = bs (acc ++ rowT i x) := by
  rw [show (⟨#[32]⟩ : ByteArray) = bs [32] from rfl, show (⟨#[10]⟩ : ByteArray) = bs [10] from rfl, show (⟨#[32, 99, 108, 111, 115, 101, 100]⟩ : ByteArray) = bs closedT from rfl]
  simp only [num_bs, bs_append]
  unfold rowT
  rw [if_neg h, hc, line4_eq]
  simp
theorem head_eq (a b : Int) : num a ++ ⟨#[32]⟩ ++ num b ++ ⟨#[10]⟩ = bs (lineF [a, b] ++ [10]) := by
  rw [show (⟨#[32]⟩ : ByteArray) = bs [32] from rfl, show (⟨#[10]⟩ : ByteArray) = bs [10] from rfl]
  simp only [num_bs, bs_append]
  rw [line2_eq]
theorem dcells_later {w X : World} {p q cap : Nat} {size : Int} {l : List PB} (h : DLies w p q cap size l ∧ w.cell? ⟨p, 0, none⟩ = some (.int .i64 size) ∧ w.cell? ⟨p, 1, none⟩ = some (.slice (some ⟨q, 0, none⟩) l.length cap)) (hb : Below w.heap.size w X) : DLies X p q cap size l ∧ X.cell? ⟨p, 0, none⟩ = some (.int .i64 size) ∧ X.cell? ⟨p, 1, none⟩ = some (.slice (some ⟨q, 0, none⟩) l.length cap) :=
  ⟨h.1.later hb, (h.1.later hb).box.cell (i := 0) rfl, (h.1.later hb).box.cell (i := 1) rfl⟩
theorem bcells_later {w X : World} {b : Nat} {u s v : Int} {c : Bool} (h : Row w b [.int .i64 u, .int .i64 s, .int .i64 v, .bool c] 57 ∧ w.cell? ⟨b, 0, none⟩ = some (.int .i64 u) ∧ w.cell? ⟨b, 1, none⟩ = some (.int .i64 s) ∧ w.cell? ⟨b, 2, none⟩ = some (.int .i64 v)) (hb : Below w.heap.size w X) : Row X b [.int .i64 u, .int .i64 s, .int .i64 v, .bool c] 57 ∧ X.cell? ⟨b, 0, none⟩ = some (.int .i64 u) ∧ X.cell? ⟨b, 1, none⟩ = some (.int .i64 s) ∧ X.cell? ⟨b, 2, none⟩ = some (.int .i64 v) :=
  ⟨h.1.later hb, (h.1.later hb).cell (i := 0) rfl, (h.1.later hb).cell (i := 1) rfl, (h.1.later hb).cell (i := 2) rfl⟩
set_option maxHeartbeats 8000000 in
theorem dtext_any {w : World} {p q cap : Nat} {size : Int} {l : List PB} (h : DLies w p q cap size l) (hO : BkOk size l) :
    Calls Tryz.prog 36 #[.pointer (some ⟨p, 0, none⟩)] w fun e w' => e = .returned (.string (bs (textF size l))) ∧ Below w.heap.size w w' := by
  have hn := hO.n2
  have hs1 := hO.s1
  have hs2 := hO.s2
  have HM : Hid (∀ X, Below w.heap.size w X → DLies X p q cap size l) := fun X hb => h.later hb
  have HO := hidW hO
  have hS := And.intro (Below.refl w.heap.size w) (And.intro h (And.intro (h.box.cell (i := 0) rfl) (h.box.cell (i := 1) rfl)))
  have k1 := hidW (fun W => rnum_any (l.length : Nat) (by omega) (by omega) W)
  have k2 := hidW (fun W => rnum_any size (by omega) (by omega) W)
  have z1 := num_len (n := (l.length : Nat)) (by omega) (by omega)
  have z2 := num_len (n := size) (by omega) (by omega)
  obtain ⟨S0, hS0⟩ : ∃ S0, S0 = num (l.length : Nat) ++ ⟨#[32]⟩ ++ num size ++ ⟨#[10]⟩ := ⟨_, rfl⟩
  have hS0l : S0.size ≤ 18 := by rw [hS0]; simp only [ByteArray.size_append]; have : (⟨#[32]⟩ : ByteArray).size = 1 := rfl; have : (⟨#[10]⟩ : ByteArray).size = 1 := rfl; omega
  have HS0 := hidW (show S0 = bs (lineF [(l.length : Int), size] ++ [10] ++ rowsT 0 (l.take 0)) by rw [hS0, head_eq]; simp [rowsT])
  obtain ⟨N1, hN1⟩ : ∃ N1, N1 = num (l.length : Nat) := ⟨_, rfl⟩
  obtain ⟨N2, hN2⟩ : ∃ N2, N2 = num size := ⟨_, rfl⟩
  rw [← hN1] at k1 z1 hS0
  rw [← hN2] at k2 z2 hS0
  have HSe := hidW hS0
  have hc1 : ¬ 9223372036854775807 < N1.size + 1 := by omega
  have hc2 : ¬ 9223372036854775807 < N1.size + 1 + N2.size := by omega
  have hc3 : ¬ 9223372036854775807 < N1.size + 1 + N2.size + 1 := by omega
  clear h hO hN1 hN2 hS0
  go_enter Tryz.func36, Tryz.ntmps36
  go_wp2_with fail
  go_region_held3 (fun w' => Below w.heap.size w w' ∧ (DLies w' p q cap size l ∧ w'.cell? ⟨p, 0, none⟩ = some (.int .i64 size) ∧ w'.cell? ⟨p, 1, none⟩ = some (.slice (some ⟨q, 0, none⟩) l.length cap))) (first | assumption | exact ⟨Below.drew (And.left ‹Below _ _ _ ∧ _›), dcells_later (And.right ‹Below _ _ _ ∧ _›) (Below.refl _ _).drew⟩)
    (first
    | (go_at_call 57; refine (k1.out _).mono ?_; rintro e w' ⟨rfl, hb⟩; have hk := And.intro (Below.after (And.left ‹Below _ _ _ ∧ _›) hb) (dcells_later (And.right ‹Below _ _ _ ∧ _›) hb); clear hb)
    | (go_at_call 57; refine (k2.out _).mono ?_; rintro e w' ⟨rfl, hb⟩; have hk := And.intro (Below.after (And.left ‹Below _ _ _ ∧ _›) hb) (dcells_later (And.right ‹Below _ _ _ ∧ _›) hb); clear hb))
  rw [← HSe.out]
  obtain ⟨hbK, _⟩ := (‹Below _ _ _ ∧ _›)
  have HBK := hidW hbK
  clear hbK hc1 hc2 hc3 k1 k2 z1 z2 HSe hS
  go_wp2_with fail
  go_loopg [3, 4] l.length (fun kx s3 s4 wr => ∃ (k : Nat) (S : ByteArray), k + kx = l.length ∧ s3 = .string S ∧ s4 = .int .i64 (k : Nat) ∧ Hid (S = bs (lineF [(l.length : Int), size] ++ [10] ++ rowsT 0 (l.take k)) ∧ Below w.heap.size w wr) ∧ S.size ≤ 20000)
  case atStart => exact ⟨0, S0, by omega, rfl, rfl, ⟨HS0.out, HBK.out⟩, by omega⟩
  case round =>
    obtain ⟨k, S, hk, rfl, rfl, HA, hSl⟩ := hrel
    have c1 := (HM.out wr HA.out.2).box.cell (i := 1) rfl
    by_cases hlt : k < l.length
    · obtain ⟨x, hx⟩ : ∃ x, l[k]? = some x := ⟨_, List.getElem?_eq_getElem hlt⟩
      have hok := HO.out.ok x (List.mem_of_getElem? hx)
      obtain ⟨g0, g1, g2, g3⟩ := (HM.out wr HA.out.2).at hx
      have n0 : ¬ (k : Int) < 0 := by omega
      have n1 : (k : Int) < (l.length : Int) := by omega
      obtain ⟨acc, hacc⟩ : ∃ acc, acc = lineF [(l.length : Int), size] ++ [10] ++ rowsT 0 (l.take k) := ⟨_, rfl⟩
      have hnext : lineF [(l.length : Int), size] ++ [10] ++ rowsT 0 (l.take (k + 1)) = acc ++ rowT k x := by
        rw [hacc, List.take_add_one, hx]
        simp only [Option.toList]
        rw [rowsT_snoc, List.length_take, Nat.zero_add, show min k l.length = k by omega, ← List.append_assoc]
      have hal : (acc ++ rowT k x).length ≤ 20000 := by
        rw [← hnext]
        have h1 := line_len (ns := [(l.length : Int), size]) (fun y hy => by simp at hy; rcases hy with rfl | rfl <;> constructor <;> omega)
        have h2 := rowsT_len hs2 (l.take (k + 1)) 0 (fun y hy => HO.out.ok y (List.mem_of_mem_take hy)) (by simp; omega)
        simp only [List.length_append, List.length_cons, List.length_nil, List.length_take] at h1 h2 ⊢
        omega
      rw [← hacc] at HA
      have HNx := hidW (And.intro hnext hal)
      have hB1 := below_new wr (.cells #[.int .i64 x.use, .int .i64 x.used, .int .i64 x.live, .bool x.closed] 57)
      have HB1 := hidW (Below.after HA.out.2 hB1)
      have hq1 := (HM.out wr HA.out.2).row.lt
      have b0 := hok.use0
      have b1 := hok.use3
      have b2 := hok.l0
      have b3 := hok.lu
      have b4 := hok.us
      clear hx hok hacc hnext hal
      by_cases h0 : x.use = 0
      · have e0 : (x.use == 0) = true := by simpa using h0
        have HR := hidW (show S = bs (acc ++ rowT k x) by rw [HA.out.1]; unfold rowT; rw [if_pos h0, List.append_nil])
        clear h0 hB1
        go_wp2
        go_roundg (l.length - (k + 1))
        case measure => omega
        case rel => exact ⟨k + 1, S, by omega, rfl, by go_num, ⟨by rw [HNx.out.1]; exact HR.out, HB1.out⟩, hSl⟩
      · have e0 : (x.use == 0) = false := by simpa using h0
        have hR0 := Row.new wr [.int .i64 x.use, .int .i64 x.used, .int .i64 x.live, .bool x.closed] 57
        have k1 := hidW (fun W => rnum_any (k : Nat) (by omega) (by omega) W)
        have k2 := hidW (fun W => rnum_any x.use (by omega) (by omega) W)
        have k3 := hidW (fun W => rnum_any x.used (by omega) (by omega) W)
        have k4 := hidW (fun W => rnum_any x.live (by omega) (by omega) W)
        have z1 := num_len (n := (k : Nat)) (by omega) (by omega)
        have z2 := num_len (n := x.use) (by omega) (by omega)
        have z3 := num_len (n := x.used) (by omega) (by omega)
        have z4 := num_len (n := x.live) (by omega) (by omega)
        have r1 := fun hc => row_open acc k x h0 hc
        have r2 := fun hc => row_shut acc k x h0 hc
        rw [← HA.out.1] at r1 r2
        obtain ⟨N1, hN1⟩ : ∃ N1, N1 = num (k : Nat) := ⟨_, rfl⟩
        obtain ⟨N2, hN2⟩ : ∃ N2, N2 = num x.use := ⟨_, rfl⟩
        obtain ⟨N3, hN3⟩ : ∃ N3, N3 = num x.used := ⟨_, rfl⟩
        obtain ⟨N4, hN4⟩ : ∃ N4, N4 = num x.live := ⟨_, rfl⟩
        rw [← hN1] at k1 z1 r1 r2
        rw [← hN2] at k2 z2 r1 r2
        rw [← hN3] at k3 z3 r1 r2
        rw [← hN4] at k4 z4 r1 r2
        have HR1 := hidW r1
        have HR2 := hidW r2
        obtain ⟨X, hX⟩ : ∃ X, X = wr.alloc (.cells #[.int .i64 x.use, .int .i64 x.used, .int .i64 x.live, .bool x.closed] 57) := ⟨_, rfl⟩
        have hc1 : ¬ 9223372036854775807 < S.size + N1.size := by omega
        have hc2 : ¬ 9223372036854775807 < S.size + N1.size + 1 := by omega
        have hc3 : ¬ 9223372036854775807 < S.size + N1.size + 1 + N2.size := by omega
        have hc4 : ¬ 9223372036854775807 < S.size + N1.size + 1 + N2.size + 1 := by omega
        have hc5 : ¬ 9223372036854775807 < S.size + N1.size + 1 + N2.size + 1 + N3.size := by omega
        have hc6 : ¬ 9223372036854775807 < S.size + N1.size + 1 + N2.size + 1 + N3.size + 1 := by omega
        have hc7 : ¬ 9223372036854775807 < S.size + N1.size + 1 + N2.size + 1 + N3.size + 1 + N4.size := by omega
        have hc8 : ¬ 9223372036854775807 < S.size + N1.size + 1 + N2.size + 1 + N3.size + 1 + N4.size + 1 := by omega
        have hc9 : ¬ 9223372036854775807 < S.size + N1.size + 1 + N2.size + 1 + N3.size + 1 + N4.size + 7 := by omega
        have hc10 : ¬ 9223372036854775807 < S.size + N1.size + 1 + N2.size + 1 + N3.size + 1 + N4.size + 7 + 1 := by omega
        clear r1 r2 hN1 hN2 hN3 hN4 h0 hB1
        go_wp2_with fail
        rw [← hX]
        rw [← hX] at hR0 HB1
        have hS2 := And.intro (Below.refl X.heap.size X) (And.intro hR0 (And.intro (hR0.cell (i := 0) rfl) (And.intro (hR0.cell (i := 1) rfl) (hR0.cell (i := 2) rfl))))
        clear hX hR0
        go_region_held3 (fun w' => Below X.heap.size X w' ∧ (Row w' wr.heap.size [.int .i64 x.use, .int .i64 x.used, .int .i64 x.live, .bool x.closed] 57 ∧ w'.cell? ⟨wr.heap.size, 0, none⟩ = some (.int .i64 x.use) ∧ w'.cell? ⟨wr.heap.size, 1, none⟩ = some (.int .i64 x.used) ∧ w'.cell? ⟨wr.heap.size, 2, none⟩ = some (.int .i64 x.live))) (first | assumption | exact ⟨Below.drew (And.left ‹Below _ _ _ ∧ _›), bcells_later (And.right ‹Below _ _ _ ∧ _›) (Below.refl _ _).drew⟩)
          (first
          | (go_at_call 57; refine (k1.out _).mono ?_; rintro e w' ⟨rfl, hb⟩; have hk := And.intro (Below.after (And.left ‹Below _ _ _ ∧ _›) hb) (bcells_later (And.right ‹Below _ _ _ ∧ _›) hb); clear hb)
          | (go_at_call 57; refine (k2.out _).mono ?_; rintro e w' ⟨rfl, hb⟩; have hk := And.intro (Below.after (And.left ‹Below _ _ _ ∧ _›) hb) (bcells_later (And.right ‹Below _ _ _ ∧ _›) hb); clear hb)
          | (go_at_call 57; refine (k3.out _).mono ?_; rintro e w' ⟨rfl, hb⟩; have hk := And.intro (Below.after (And.left ‹Below _ _ _ ∧ _›) hb) (bcells_later (And.right ‹Below _ _ _ ∧ _›) hb); clear hb)
          | (go_at_call 57; refine (k4.out _).mono ?_; rintro e w' ⟨rfl, hb⟩; have hk := And.intro (Below.after (And.left ‹Below _ _ _ ∧ _›) hb) (bcells_later (And.right ‹Below _ _ _ ∧ _›) hb); clear hb))
        obtain ⟨hbE, hrE, _⟩ := (‹Below _ _ _ ∧ _›)
        have c3 := hrE.cell (i := 3) rfl
        have HBE := hidW (Below.after HB1.out hbE)
        clear hbE hrE
        cases hcl : x.closed with
        | true =>
          rw [hcl] at c3
          have HE := hidW (HR2.out hcl)
          clear hcl HR1 HR2
          go_wp2
          go_roundg (l.length - (k + 1))
          case measure => omega
          case rel => exact ⟨k + 1, _, by omega, rfl, by go_num, ⟨by rw [HNx.out.1]; exact HE.out, HBE.out⟩, by rw [HE.out, bs_size]; exact HNx.out.2⟩
        | false =>
          rw [hcl] at c3
          have HE := hidW (HR1.out hcl)
          clear hcl HR1 HR2
          go_wp2
          go_roundg (l.length - (k + 1))
          case measure => omega
          case rel => exact ⟨k + 1, _, by omega, rfl, by go_num, ⟨by rw [HNx.out.1]; exact HE.out, HBE.out⟩, by rw [HE.out, bs_size]; exact HNx.out.2⟩
    · have hkk : k = l.length := by omega
      rw [hkk, List.take_length] at HA
      have n1 : ¬ (k : Int) < (l.length : Int) := by omega
      clear hkk hlt hk
      go_wp2
      go_ret
      exact ⟨by rw [HA.out.1]; rfl, HA.out.2⟩
end Go.Proofs.YtmaekpfkkpkgpaaGreatDoor
