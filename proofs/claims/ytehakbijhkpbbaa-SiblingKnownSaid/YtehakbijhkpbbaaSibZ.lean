/- The examples. -/
import Derived.Test.YtehakbijhkpbbaaSibY
namespace Go.Proofs.Ytehakbijhkpbbaa
open Go.RowKit

def kn2M : List Nat := [1, 2, 6, 15, 31, 63, 95, 159, 256, 512, 1855, 2879, 4927]
def kn2R (vx : Value) (N : Nat) : List ((Nat → Value) → World → Prop) := [
  fun val _ => val 0 = rg (f1) vx,
  fun val _ => val 1 = .agg (dv 0 1),
  fun val W => ∃ x, (val 2) = x ∧ DL W x [dA],
  fun val W => ∃ v', (val 3) = .tuple #[rg (fC 1 2 0) v', .agg (dv 1 2), .int .i64 0] ∧ OwnL W v' [sB],
  fun val _ => val 4 = (val 3),
  fun val _ => val 5 = tupAt (val 4) 0,
  fun val _ => val 6 = tupAt (val 4) 1,
  fun val _ => val 7 = tupAt (val 4) 2,
  fun val W => ∃ b, (val 8) = .pointer (some ⟨b, 0, none⟩) ∧ N ≤ b ∧ Blk W b 39 rz,
  fun val W => ∃ b, (val 9) = .pointer (some ⟨b, 0, none⟩) ∧ N ≤ b ∧ Blk W b 27 dz]

def kn3M : List Nat := [1, 3, 7, 15, 23, 39, 64, 128, 511, 767, 1279]
def kn3R (vx : Value) (N : Nat) : List ((Nat → Value) → World → Prop) := [
  fun val _ => val 0 = rg (f1) vx,
  fun val W => ∃ v', (val 1) = .tuple #[rg (fC 1 2 0) v', .agg (dv 1 2), .int .i64 0] ∧ OwnL W v' [sA, sB],
  fun val _ => val 2 = (val 1),
  fun val _ => val 3 = tupAt (val 2) 0,
  fun val _ => val 4 = tupAt (val 2) 1,
  fun val _ => val 5 = tupAt (val 2) 2,
  fun val W => ∃ b, (val 6) = .pointer (some ⟨b, 0, none⟩) ∧ N ≤ b ∧ Blk W b 39 rz,
  fun val W => ∃ b, (val 7) = .pointer (some ⟨b, 0, none⟩) ∧ N ≤ b ∧ Blk W b 27 dz]

def kn4M : List Nat := [1, 2, 6, 15, 31, 63, 95, 159, 256, 512, 1855, 2879, 4927]
def kn4R (vx : Value) (N : Nat) : List ((Nat → Value) → World → Prop) := [
  fun val _ => val 0 = rg (f1) vx,
  fun val _ => val 1 = .agg (dv 0 1),
  fun val W => ∃ x, (val 2) = x ∧ DL W x [dA],
  fun val W => ∃ v', (val 3) = .tuple #[rg (fC 1 2 0) v', .agg (dv 1 2), .int .i64 0] ∧ OwnL W v' [],
  fun val _ => val 4 = (val 3),
  fun val _ => val 5 = tupAt (val 4) 0,
  fun val _ => val 6 = tupAt (val 4) 1,
  fun val _ => val 7 = tupAt (val 4) 2,
  fun val W => ∃ b, (val 8) = .pointer (some ⟨b, 0, none⟩) ∧ N ≤ b ∧ Blk W b 39 rz,
  fun val W => ∃ b, (val 9) = .pointer (some ⟨b, 0, none⟩) ∧ N ≤ b ∧ Blk W b 27 dz]

def kn5M : List Nat := [1, 3, 7, 15, 23, 39, 103, 255, 511, 1023, 2047, 4095, 6143, 16383, 32767, 65535, 131071, 262143, 524287, 1048575, 2097151, 3145727, 5242879, 9437183, 30408703, 67108863, 134217727, 268435455, 536870911, 1073741823, 2147483647, 4294967295, 8589934591, 17179869183, 25769803775, 68719476735, 137438953471, 274877906943, 549755813887, 1099511627775, 1649267441663, 4398046511103, 8796093022207, 17592186044415, 35184372088831, 70368744177663, 140737488355327]
def kn5R (v44 v50 v58 : Value)  : List ((Nat → Value) → World → Prop) := [
  fun val _ => val 0 = .bool true,
  fun val _ => val 1 = .bool false,
  fun val _ => val 2 = .bool false,
  fun val _ => val 3 = rg (fC 1 2 0) v44,
  fun val _ => val 4 = .agg (vv (fC 1 2 0)),
  fun val _ => val 5 = .agg #[.int .u8 1, .int .u32 2, .string (bs [98])],
  fun val W => ∃ x, (val 6) = x ∧ SL W x [sB],
  fun val _ => val 7 = .bool true,
  fun val _ => val 8 = .bool false,
  fun val _ => val 9 = .bool false,
  fun val _ => val 10 = .bool false,
  fun val _ => val 11 = .agg (dv 1 2),
  fun val _ => val 12 = .agg (dv 1 2),
  fun val _ => val 13 = .bool false,
  fun val _ => val 14 = .bool false,
  fun val _ => val 15 = .bool false,
  fun val _ => val 16 = .int .i64 0,
  fun val _ => val 17 = .bool false,
  fun val _ => val 18 = .bool false,
  fun val _ => val 19 = .bool false,
  fun val _ => val 20 = rg (fC 1 2 0) v50,
  fun val _ => val 21 = .agg (vv (fC 1 2 0)),
  fun val _ => val 22 = .agg #[.int .u8 0, .int .u32 1, .string (bs [97])],
  fun val _ => val 23 = .agg #[.int .u8 1, .int .u32 2, .string (bs [98])],
  fun val W => ∃ x, (val 24) = x ∧ SL W x [sA, sB],
  fun val _ => val 25 = .bool true,
  fun val _ => val 26 = .bool false,
  fun val _ => val 27 = .bool false,
  fun val _ => val 28 = .bool false,
  fun val _ => val 29 = .int .i64 0,
  fun val _ => val 30 = .bool false,
  fun val _ => val 31 = .bool false,
  fun val _ => val 32 = .bool false,
  fun val _ => val 33 = rg (fC 1 2 0) v58,
  fun val _ => val 34 = .agg (vv (fC 1 2 0)),
  fun val _ => val 35 = .bool true,
  fun val _ => val 36 = .bool false,
  fun val _ => val 37 = .bool false,
  fun val _ => val 38 = .bool false,
  fun val _ => val 39 = .agg (dv 1 2),
  fun val _ => val 40 = .agg (dv 1 2),
  fun val _ => val 41 = .bool false,
  fun val _ => val 42 = .bool false,
  fun val _ => val 43 = .bool false,
  fun val _ => val 44 = .int .i64 0,
  fun val _ => val 45 = .bool false,
  fun val _ => val 46 = .bool false]

def kn7M : List Nat := [1, 2, 6, 15, 31, 63, 95, 159, 256, 512, 1855, 2879, 4927]
def kn7R (vx : Value) (N : Nat) : List ((Nat → Value) → World → Prop) := [
  fun val _ => val 0 = rg (f1) vx,
  fun val _ => val 1 = .agg (dv 0 1),
  fun val W => ∃ x, (val 2) = x ∧ DL W x [dA],
  fun val W => ∃ v', (val 3) = .tuple #[rg (fC 1 0 2) v', .agg (dv 2 2), .int .i64 0] ∧ OwnL W v' [sC],
  fun val _ => val 4 = (val 3),
  fun val _ => val 5 = tupAt (val 4) 0,
  fun val _ => val 6 = tupAt (val 4) 1,
  fun val _ => val 7 = tupAt (val 4) 2,
  fun val W => ∃ b, (val 8) = .pointer (some ⟨b, 0, none⟩) ∧ N ≤ b ∧ Blk W b 39 rz,
  fun val W => ∃ b, (val 9) = .pointer (some ⟨b, 0, none⟩) ∧ N ≤ b ∧ Blk W b 27 dz]

def kn8M : List Nat := [1, 2, 7, 15, 31, 47, 64, 255, 383]
def kn8R (v44 v113 : Value) (N : Nat) : List ((Nat → Value) → World → Prop) := [
  fun val _ => val 0 = rg (fC 1 2 0) v44,
  fun val _ => val 1 = rg (fC 1 0 2) v113,
  fun val W => ∃ v', (val 2) = .tuple #[rg (fC 1 2 2) v', .int .i64 0] ∧ OwnL W v' [sB, sC],
  fun val _ => val 3 = (val 2),
  fun val _ => val 4 = tupAt (val 3) 0,
  fun val _ => val 5 = tupAt (val 3) 1,
  fun val W => ∃ b, (val 6) = .pointer (some ⟨b, 0, none⟩) ∧ N ≤ b ∧ Blk W b 39 rz]

def kn9M : List Nat := [1, 2, 7, 15, 31, 47, 64, 255, 383]
def kn9R (vx v58 : Value) (N : Nat) : List ((Nat → Value) → World → Prop) := [
  fun val _ => val 0 = rg (f1) vx,
  fun val _ => val 1 = rg (fC 1 2 0) v58,
  fun val W => ∃ v', (val 2) = .tuple #[rg (fC 1 2 0) v', .int .i64 0] ∧ OwnL W v' [],
  fun val _ => val 3 = (val 2),
  fun val _ => val 4 = tupAt (val 3) 0,
  fun val _ => val 5 = tupAt (val 3) 1,
  fun val W => ∃ b, (val 6) = .pointer (some ⟨b, 0, none⟩) ∧ N ≤ b ∧ Blk W b 39 rz]

def kn10M : List Nat := [1, 3, 7, 15, 23, 39, 71, 231, 511, 1023, 2047, 4095, 8191, 16383, 32767, 65535, 131071, 196607, 524287, 1048575, 2097151, 4194303, 8388607, 16777215, 33554431, 67108863, 134217727, 201326591, 536870911, 1073741823, 2147483647, 4294967295, 6442450943, 17179869183, 34359738367, 68719476735, 137438953471, 274877906943, 549755813887, 824633720831, 2199023255551, 4398046511103, 8796093022207, 17592186044415]
def kn10R (vx v44 v50 v120 v126 : Value)  : List ((Nat → Value) → World → Prop) := [
  fun val _ => val 0 = .int .i64 0,
  fun val _ => val 1 = .bool false,
  fun val _ => val 2 = .bool false,
  fun val _ => val 3 = rg (fC 1 2 2) v120,
  fun val _ => val 4 = .agg (vv (fC 1 2 2)),
  fun val _ => val 5 = .agg #[.int .u8 1, .int .u32 2, .string (bs [98])],
  fun val _ => val 6 = .agg #[.int .u8 2, .int .u32 2, .string (bs [99])],
  fun val W => ∃ x, (val 7) = x ∧ SL W x [sB, sC],
  fun val _ => val 8 = .bool true,
  fun val _ => val 9 = .bool false,
  fun val _ => val 10 = .bool false,
  fun val _ => val 11 = .bool false,
  fun val _ => val 12 = .int .i64 0,
  fun val _ => val 13 = .bool false,
  fun val _ => val 14 = .bool false,
  fun val _ => val 15 = .bool false,
  fun val _ => val 16 = rg (fC 1 2 0) v126,
  fun val _ => val 17 = .agg (vv (fC 1 2 0)),
  fun val _ => val 18 = .bool true,
  fun val _ => val 19 = .bool false,
  fun val _ => val 20 = .bool false,
  fun val _ => val 21 = .bool false,
  fun val _ => val 22 = .int .i64 0,
  fun val _ => val 23 = .bool false,
  fun val _ => val 24 = .bool false,
  fun val _ => val 25 = .bool false,
  fun val _ => val 26 = rg (fC 1 2 0) v44,
  fun val _ => val 27 = rg (fC 1 2 0) v50,
  fun val _ => val 28 = .bool false,
  fun val _ => val 29 = .bool false,
  fun val _ => val 30 = .bool false,
  fun val _ => val 31 = rg (f1) vx,
  fun val _ => val 32 = rg (fC 1 2 0) v44,
  fun val _ => ∃ a c, (val 33) = .slice a 1 c,
  fun val _ => val 34 = .int .i64 1,
  fun val _ => val 35 = .bool false,
  fun val _ => val 36 = .bool false,
  fun val _ => val 37 = .bool false,
  fun val _ => val 38 = rg (f1) vx,
  fun val _ => val 39 = rg (fC 1 2 0) v50,
  fun val _ => ∃ a c, (val 40) = .slice a 0 c,
  fun val _ => val 41 = .int .i64 0,
  fun val _ => val 42 = .bool false,
  fun val _ => val 43 = .bool false]

def kn12M : List Nat := [1, 3, 7, 15, 23, 39, 64, 128, 511, 767, 1279]
def kn12R (vx : Value) (N : Nat) : List ((Nat → Value) → World → Prop) := [
  fun val _ => val 0 = rg (f1) vx,
  fun val W => ∃ v', (val 1) = .tuple #[rg (fun _ => 0) v', .agg (dv 0 0), .int .i64 2] ∧ OwnL W v' [],
  fun val _ => val 2 = (val 1),
  fun val _ => val 3 = tupAt (val 2) 0,
  fun val _ => val 4 = tupAt (val 2) 1,
  fun val _ => val 5 = tupAt (val 2) 2,
  fun val W => ∃ b, (val 6) = .pointer (some ⟨b, 0, none⟩) ∧ N ≤ b ∧ Blk W b 39 rz,
  fun val W => ∃ b, (val 7) = .pointer (some ⟨b, 0, none⟩) ∧ N ≤ b ∧ Blk W b 27 dz]

def kn13M : List Nat := [1, 3, 7, 15, 31, 47, 79, 128, 256, 1023, 1535, 2559]
def kn13R (N : Nat) : List ((Nat → Value) → World → Prop) := [
  fun val _ => val 0 = .agg (vv (fC 0 65535 0)),
  fun val _ => val 1 = rg (fC 0 65535 0) (.slice none 0 0),
  fun val W => ∃ v', (val 2) = .tuple #[rg (fun _ => 0) v', .agg (dv 0 0), .int .i64 12] ∧ OwnL W v' [],
  fun val _ => val 3 = (val 2),
  fun val _ => val 4 = tupAt (val 3) 0,
  fun val _ => val 5 = tupAt (val 3) 1,
  fun val _ => val 6 = tupAt (val 3) 2,
  fun val W => ∃ b, (val 7) = .pointer (some ⟨b, 0, none⟩) ∧ N ≤ b ∧ Blk W b 39 rz,
  fun val W => ∃ b, (val 8) = .pointer (some ⟨b, 0, none⟩) ∧ N ≤ b ∧ Blk W b 27 dz]

def kn14M : List Nat := [1, 2, 6, 15, 31, 63, 127, 191, 319, 512, 1024, 4095, 6143, 10239]
def kn14R (N : Nat) : List ((Nat → Value) → World → Prop) := [
  fun val _ => val 0 = .agg (vv (fC 1 0 0)),
  fun val _ => val 1 = .agg #[.int .u8 0, .int .u32 2, .string (bs [])],
  fun val W => ∃ b, (val 2) = .slice (some ⟨b, 0, none⟩) 1 1 ∧ SL W (.slice (some ⟨b, 0, none⟩) 1 1) [sE],
  fun val W => ∃ x, (val 3) = rg (fC 1 0 0) x ∧ SL W x [sE],
  fun val W => ∃ v', (val 4) = .tuple #[rg (fun _ => 0) v', .agg (dv 0 0), .int .i64 4] ∧ OwnL W v' [],
  fun val _ => val 5 = (val 4),
  fun val _ => val 6 = tupAt (val 5) 0,
  fun val _ => val 7 = tupAt (val 5) 1,
  fun val _ => val 8 = tupAt (val 5) 2,
  fun val W => ∃ b, (val 9) = .pointer (some ⟨b, 0, none⟩) ∧ N ≤ b ∧ Blk W b 39 rz,
  fun val W => ∃ b, (val 10) = .pointer (some ⟨b, 0, none⟩) ∧ N ≤ b ∧ Blk W b 27 dz]

def kn15M : List Nat := [1, 2, 6, 15, 31, 63, 95, 128, 511, 767]
def kn15R (vx : Value) (N : Nat) : List ((Nat → Value) → World → Prop) := [
  fun val _ => val 0 = rg (f1) vx,
  fun val _ => val 1 = .agg (vv (fC 65536 0 0)),
  fun val _ => val 2 = rg (fC 65536 0 0) (.slice none 0 0),
  fun val W => ∃ v', (val 3) = .tuple #[rg (fun _ => 0) v', .int .i64 4] ∧ OwnL W v' [],
  fun val _ => val 4 = (val 3),
  fun val _ => val 5 = tupAt (val 4) 0,
  fun val _ => val 6 = tupAt (val 4) 1,
  fun val W => ∃ b, (val 7) = .pointer (some ⟨b, 0, none⟩) ∧ N ≤ b ∧ Blk W b 39 rz]

def kn16M : List Nat := [1, 3, 4, 15]
def kn16R (N : Nat) : List ((Nat → Value) → World → Prop) := [
  fun val _ => val 0 = .agg (vv (fC 8 0 0)),
  fun val _ => val 1 = rg (fC 8 0 0) (.slice none 0 0),
  fun val W => ∃ b, (val 2) = .pointer (some ⟨b, 0, none⟩) ∧ N ≤ b ∧ Blk W b 39 rz]

def kn20M : List Nat := [1, 3, 4, 12, 28, 63, 95, 159]
def kn20R (vq : Value) (B29 q : Nat) (hq32 : q + 1 < 4294967296) : List ((Nat → Value) → World → Prop) := [
  fun val _ => val 0 = .pointer (some ⟨B29, 8, none⟩),
  fun val _ => val 1 = vq,
  fun val _ => val 2 = .int .u32 ((q + 1 : Nat) : Int),
  fun val _ => val 3 = .agg #[.int .u8 0, .int .u32 ((q + 1 : Nat) : Int), .string (bs [118])],
  fun val W => ∃ x, (val 4) = x ∧ SL W x [sV (q + 1) hq32]]

def kn21M : List Nat := [1, 3, 7, 15, 23, 39, 64, 128, 511, 767, 1279]
def kn21R (vq : Value) (N : Nat) : List ((Nat → Value) → World → Prop) := [
  fun val _ => val 0 = rg (fC 8 0 0) vq,
  fun val W => ∃ v', (val 1) = .tuple #[rg (fun _ => 0) v', .agg (dv 0 0), .int .i64 7] ∧ OwnL W v' [],
  fun val _ => val 2 = (val 1),
  fun val _ => val 3 = tupAt (val 2) 0,
  fun val _ => val 4 = tupAt (val 2) 1,
  fun val _ => val 5 = tupAt (val 2) 2,
  fun val W => ∃ b, (val 6) = .pointer (some ⟨b, 0, none⟩) ∧ N ≤ b ∧ Blk W b 39 rz,
  fun val W => ∃ b, (val 7) = .pointer (some ⟨b, 0, none⟩) ∧ N ≤ b ∧ Blk W b 27 dz]

def kn22M : List Nat := [1, 2, 6, 15, 31, 63, 95, 159, 256, 512, 1855, 2879, 4927]
def kn22R (vq : Value) (N : Nat) : List ((Nat → Value) → World → Prop) := [
  fun val _ => val 0 = rg (fC 8 0 0) vq,
  fun val _ => val 1 = .agg (dv 0 8),
  fun val W => ∃ x, (val 2) = x ∧ DL W x [d8],
  fun val W => ∃ v', (val 3) = .tuple #[rg (fC 8 9 0) v', .agg (dv 1 9), .int .i64 0] ∧ OwnL W v' (fullL 7 ++ [sW]),
  fun val _ => val 4 = (val 3),
  fun val _ => val 5 = tupAt (val 4) 0,
  fun val _ => val 6 = tupAt (val 4) 1,
  fun val _ => val 7 = tupAt (val 4) 2,
  fun val W => ∃ b, (val 8) = .pointer (some ⟨b, 0, none⟩) ∧ N ≤ b ∧ Blk W b 39 rz,
  fun val W => ∃ b, (val 9) = .pointer (some ⟨b, 0, none⟩) ∧ N ≤ b ∧ Blk W b 27 dz]

def kn23M : List Nat := [1, 2, 4, 12, 30, 63, 127, 255, 383, 512, 1791, 2815]
def kn23R (vq : Value) (N : Nat) : List ((Nat → Value) → World → Prop) := [
  fun val _ => val 0 = rg (fC 8 0 0) vq,
  fun val _ => val 1 = .agg (vv (fC 0 9 0)),
  fun val _ => val 2 = .agg #[.int .u8 1, .int .u32 9, .string (bs [98])],
  fun val W => ∃ b, (val 3) = .slice (some ⟨b, 0, none⟩) 1 1 ∧ SL W (.slice (some ⟨b, 0, none⟩) 1 1) [sW],
  fun val W => ∃ x, (val 4) = rg (fC 0 9 0) x ∧ SL W x [sW],
  fun val W => ∃ v', (val 5) = .tuple #[rg (fun _ => 0) v', .int .i64 7] ∧ OwnL W v' [],
  fun val _ => val 6 = (val 5),
  fun val _ => val 7 = tupAt (val 6) 0,
  fun val _ => val 8 = tupAt (val 6) 1,
  fun val W => ∃ b, (val 9) = .pointer (some ⟨b, 0, none⟩) ∧ N ≤ b ∧ Blk W b 39 rz]

def kn24M : List Nat := [1, 3, 7, 15, 31, 63, 127, 255, 511, 1023, 2047, 4095, 8191, 16383, 32767, 65535, 131071, 262143, 524287, 1048575, 2097151, 4194303, 8388607, 16777215, 33554431, 67108863, 134217727, 268435455, 536870911, 1073741823, 2147483647, 4294967295, 8589934591, 17179869183, 34359738367, 68719476735, 137438953471, 274877906943, 549755813887, 1099511627775, 2199023255551]
def kn24R (vq : Value) (a34 : Option Addr) (c34 : Nat) (B34 : Nat)  : List ((Nat → Value) → World → Prop) := [
  fun val _ => val 0 = .int .i64 2,
  fun val _ => val 1 = .bool true,
  fun val _ => val 2 = .bool true,
  fun val _ => val 3 = .int .i64 12,
  fun val _ => val 4 = .bool true,
  fun val _ => val 5 = .bool true,
  fun val _ => val 6 = .bool true,
  fun val _ => val 7 = .int .i64 4,
  fun val _ => val 8 = .bool true,
  fun val _ => val 9 = .bool true,
  fun val _ => val 10 = .bool true,
  fun val _ => val 11 = .int .i64 4,
  fun val _ => val 12 = .bool true,
  fun val _ => val 13 = .bool true,
  fun val _ => val 14 = .bool true,
  fun val _ => val 15 = rg (fC 8 0 0) vq,
  fun val _ => val 16 = .int .i64 0,
  fun val _ => val 17 = .bool true,
  fun val _ => val 18 = .bool true,
  fun val _ => val 19 = .bool true,
  fun val _ => val 20 = .int .i64 7,
  fun val _ => val 21 = .bool true,
  fun val _ => val 22 = .bool true,
  fun val _ => val 23 = .bool true,
  fun val _ => val 24 = .int .i64 0,
  fun val _ => val 25 = .bool true,
  fun val _ => val 26 = .bool true,
  fun val _ => val 27 = .bool true,
  fun val _ => val 28 = .pointer (some ⟨B34, 8, none⟩),
  fun val _ => val 29 = .slice a34 8 c34,
  fun val _ => val 30 = .int .i64 8,
  fun val _ => val 31 = .bool true,
  fun val _ => val 32 = .bool true,
  fun val _ => val 33 = .bool true,
  fun val _ => val 34 = .int .i64 7,
  fun val _ => val 35 = .bool true,
  fun val _ => val 36 = .bool true,
  fun val _ => val 37 = .bool true,
  fun val _ => val 38 = .bool true,
  fun val _ => val 39 = .bool true,
  fun val _ => val 40 = .bool true]

set_option maxRecDepth 100000 in
set_option maxHeartbeats 40000000 in
theorem sknown_any (w : World) : Calls Try.prog 9 #[] w fun e w' => e = .returned (.bool true) ∧ Frm (fun _ => False) w w' := by
  have HG := Lib.hid (fun W => given_any W)
  go_enter Try.func9, Try.ntmps9
  go_wp2_with fail
  refine (HG.out w).mono ?_
  rintro e w0 ⟨vx, rfl, ox, g0, _⟩
  obtain ⟨ax, cx, rfl, _, _⟩ := Row.slice ox
  have b1 : Blk (w0.alloc (.cells (rgc f1 (.slice ax 1 cx)) 39)) w0.heap.size 39 (rgc f1 (.slice ax 1 cx)) := Blk.alloc w0 _ _
  have k1 : Frm (fun _ => False) w0 (w0.alloc (.cells (rgc f1 (.slice ax 1 cx)) 39)) := (Frm.refl _ w0).alloc _
  have ox1 := ox.keep k1 (fun _ _ h => h)
  simp only [List.length_singleton] at ox1
  go_upto_region 2 with fail
  rename_i hK
  generalize hw1 : w0.alloc (.cells (rgc f1 (.slice ax 1 cx)) 39) = w1 at *
  obtain ⟨B1, hB1⟩ : ∃ B, w0.heap.size = B := ⟨_, rfl⟩
  rw [hB1] at b1 ⊢
  generalize hvx : Value.slice ax 1 cx = vx at *
  have H1 : Hid (∀ W, Frm (fun _ => False) w1 W → Blk W B1 39 (rgc f1 vx) ∧ SL W vx [sA]) := Lib.hid fun W g => ⟨b1.keep g (fun h => h), ox1.sl.keepF g⟩
  have GG := g0.trans k1
  clear hw1 hB1 b1 ox ox1 k1 HG
  obtain ⟨N, hN⟩ : ∃ N, w1.heap.size = N := ⟨_, rfl⟩
  have HN : Hid (∀ W, Frm (fun _ => False) w1 W → N ≤ W.heap.size) := Lib.hid fun W g => hN ▸ g.size
  have HE : Hid (w1.heap.size ≤ N) := Lib.hid (Nat.le_of_eq hN)
  have D : Frm (fun _ => False) w1 w1.drew := (Frm.refl _ _).drew
  clear hN
  refine wp_region_late 10 3 [6, 7] [[], [], [1], [0, 2], [3], [3, 4], [3, 4], [3, 4], [], []] kn2M (kn2R vx N) (by kernel_rfl) rfl rfl rfl (by kernel_rfl) (by kernel_rfl) (by kernel_rfl) (by kernel_rfl) rfl (by kernel_rfl) (by kernel_rfl) (by kernel_rfl) (by kernel_rfl) (fun val => ?_) ?_
  · try simp only [Act.put, List.setIfInBounds_toArray, List.set_cons_zero, List.set_cons_succ]
    refine RelO.next (k' := 1) rfl (fun W gW hF => ?_) ?_
    focus
      exact OpOK.load (by rfl) _ rfl (by rfl) (load_reg (H1.out W (D.trans gW)).1) (fun W' _ => rfl)
    try simp only [Act.put, List.setIfInBounds_toArray, List.set_cons_zero, List.set_cons_succ]
    refine RelO.next (k' := 2) rfl (fun W gW hF => ?_) ?_
    focus
      refine OpOK.call (by rfl) ?_ ((dot_any 0 1 W).mono ?_)
      · first | (go_simp; done) | (go_simp; with_reducible rfl) | (go_simp; rfl)
      · rintro e W1 ⟨he, g1⟩
        subst he
        exact ⟨_, rfl, g1, fun W2 _ => rfl⟩
    try simp only [Act.put, List.setIfInBounds_toArray, List.set_cons_zero, List.set_cons_succ]
    refine RelO.next (k' := 3) rfl (fun W gW hF => ?_) ?_
    focus
      obtain ⟨h1, _⟩ := hF
      have e1 : val 1 = .agg (dv 0 1) := h1 _ (Frm.refl _ W)
      try simp only [e1]
      try simp only [tupAt]
      refine OpOK.made (W' := W.alloc (.cells #[.int .u8 0, .int .u32 1] 27)) (u := .slice (some ⟨W.heap.size, 0, none⟩) 1 1) (by rfl) ?_ ((Frm.refl _ W).alloc _) (fun W2 g2 => ⟨_, rfl, (DL.one W dA).keepF g2⟩)
      first | (go_simp; done) | (go_simp; with_reducible rfl) | (go_simp; rfl)
    try simp only [Act.put, List.setIfInBounds_toArray, List.set_cons_zero, List.set_cons_succ]
    refine RelO.next (k' := 4) rfl (fun W gW hF => ?_) ?_
    focus
      obtain ⟨h0, h2, _⟩ := hF
      have e0 : val 0 = rg (f1) vx := h0 _ (Frm.refl _ W)
      have q2 : ∃ x, (val 2) = x ∧ DL W x [dA] := h2 _ (Frm.refl _ W)
      obtain ⟨x43, e2, o43⟩ := q2
      try simp only [e2]
      try simp only [e0]
      try simp only [tupAt]
      refine OpOK.call (by rfl) ?_ ((kw_a vx x43 W (H1.out W (D.trans gW)).2 o43).mono ?_)
      · first | (go_simp; done) | (go_simp; with_reducible rfl) | (go_simp; rfl)
      · rintro e W1 ⟨v', rfl, o', _, g'⟩
        exact ⟨_, rfl, g', fun W2 g2 => ⟨v', rfl, o'.keep g2 (fun _ _ h => h)⟩⟩
    try simp only [Act.put, List.setIfInBounds_toArray, List.set_cons_zero, List.set_cons_succ]
    refine RelO.next (k' := 5) rfl (fun W gW hF => ?_) ?_
    focus
      obtain ⟨h3, _⟩ := hF
      have q3 : ∃ v', (val 3) = .tuple #[rg (fC 1 2 0) v', .agg (dv 1 2), .int .i64 0] ∧ OwnL W v' [sB] := h3 _ (Frm.refl _ W)
      obtain ⟨v44, e3, o44⟩ := q3
      try simp only [e3]
      try simp only [tupAt]
      refine OpOK.val (u := (val 3)) (by rfl) ?_ (fun W' _ => rfl)
      try simp only [e3]
      try simp only [tupAt]
      first | (go_simp; done) | (go_simp; with_reducible rfl) | (go_simp; rfl)
    try simp only [Act.put, List.setIfInBounds_toArray, List.set_cons_zero, List.set_cons_succ]
    refine RelO.next (k' := 6) rfl (fun W gW hF => ?_) ?_
    focus
      obtain ⟨h3, h4, _⟩ := hF
      have q3 : ∃ v', (val 3) = .tuple #[rg (fC 1 2 0) v', .agg (dv 1 2), .int .i64 0] ∧ OwnL W v' [sB] := h3 _ (Frm.refl _ W)
      obtain ⟨v44, e3, o44⟩ := q3
      have e4 : val 4 = (val 3) := h4 _ (Frm.refl _ W)
      try simp only [e4]
      try simp only [e3]
      try simp only [tupAt]
      refine OpOK.val (u := tupAt (val 4) 0) (by rfl) ?_ (fun W' _ => rfl)
      try simp only [e4]
      try simp only [e3]
      try simp only [tupAt]
      first | (go_simp; done) | (go_simp; with_reducible rfl) | (go_simp; rfl)
    try simp only [Act.put, List.setIfInBounds_toArray, List.set_cons_zero, List.set_cons_succ]
    refine RelO.next (k' := 7) rfl (fun W gW hF => ?_) ?_
    focus
      obtain ⟨h3, h4, _⟩ := hF
      have q3 : ∃ v', (val 3) = .tuple #[rg (fC 1 2 0) v', .agg (dv 1 2), .int .i64 0] ∧ OwnL W v' [sB] := h3 _ (Frm.refl _ W)
      obtain ⟨v44, e3, o44⟩ := q3
      have e4 : val 4 = (val 3) := h4 _ (Frm.refl _ W)
      try simp only [e4]
      try simp only [e3]
      try simp only [tupAt]
      refine OpOK.val (u := tupAt (val 4) 1) (by rfl) ?_ (fun W' _ => rfl)
      try simp only [e4]
      try simp only [e3]
      try simp only [tupAt]
      first | (go_simp; done) | (go_simp; with_reducible rfl) | (go_simp; rfl)
    try simp only [Act.put, List.setIfInBounds_toArray, List.set_cons_zero, List.set_cons_succ]
    refine RelO.next (k' := 8) rfl (fun W gW hF => ?_) ?_
    focus
      obtain ⟨h3, h4, _⟩ := hF
      have q3 : ∃ v', (val 3) = .tuple #[rg (fC 1 2 0) v', .agg (dv 1 2), .int .i64 0] ∧ OwnL W v' [sB] := h3 _ (Frm.refl _ W)
      obtain ⟨v44, e3, o44⟩ := q3
      have e4 : val 4 = (val 3) := h4 _ (Frm.refl _ W)
      try simp only [e4]
      try simp only [e3]
      try simp only [tupAt]
      refine OpOK.val (u := tupAt (val 4) 2) (by rfl) ?_ (fun W' _ => rfl)
      try simp only [e4]
      try simp only [e3]
      try simp only [tupAt]
      first | (go_simp; done) | (go_simp; with_reducible rfl) | (go_simp; rfl)
    try simp only [Act.put, List.setIfInBounds_toArray, List.set_cons_zero, List.set_cons_succ]
    refine RelO.next (k' := 9) rfl (fun W gW hF => ?_) ?_
    focus
      have hlt := HN.out W (D.trans gW)
      refine OpOK.made (W' := W.alloc (.cells rz 39)) (u := .pointer (some ⟨W.heap.size, 0, none⟩)) (by rfl) ?_ ((Frm.refl _ W).alloc _) (fun W2 g2 => ⟨W.heap.size, rfl, hlt, (Blk.alloc W _ _).keep g2 (fun h => h)⟩)
      first | (go_simp; done) | (go_simp; with_reducible rfl) | (go_simp; rfl)
    try simp only [Act.put, List.setIfInBounds_toArray, List.set_cons_zero, List.set_cons_succ]
    refine RelO.next (k' := 10) rfl (fun W gW hF => ?_) ?_
    focus
      have hlt := HN.out W (D.trans gW)
      refine OpOK.made (W' := W.alloc (.cells dz 27)) (u := .pointer (some ⟨W.heap.size, 0, none⟩)) (by rfl) ?_ ((Frm.refl _ W).alloc _) (fun W2 g2 => ⟨W.heap.size, rfl, hlt, (Blk.alloc W _ _).keep g2 (fun h => h)⟩)
      first | (go_simp; done) | (go_simp; with_reducible rfl) | (go_simp; rfl)
    try simp only [Act.put, List.setIfInBounds_toArray, List.set_cons_zero, List.set_cons_succ]
    exact RelO.nil
  intro val W gW hF
  obtain ⟨h0, h1, h2, h3, h4, h5, h6, h7, h8, h9, _⟩ := hF
  have e0 : val 0 = rg (f1) vx := h0 _ (Frm.refl _ W)
  have e1 : val 1 = .agg (dv 0 1) := h1 _ (Frm.refl _ W)
  have q2 : ∃ x, (val 2) = x ∧ DL W x [dA] := h2 _ (Frm.refl _ W)
  obtain ⟨x43, e2, o43⟩ := q2
  have q3 : ∃ v', (val 3) = .tuple #[rg (fC 1 2 0) v', .agg (dv 1 2), .int .i64 0] ∧ OwnL W v' [sB] := h3 _ (Frm.refl _ W)
  obtain ⟨v44, e3, o44⟩ := q3
  have e4 : val 4 = (val 3) := h4 _ (Frm.refl _ W)
  have e5 : val 5 = tupAt (val 4) 0 := h5 _ (Frm.refl _ W)
  have e6 : val 6 = tupAt (val 4) 1 := h6 _ (Frm.refl _ W)
  have e7 : val 7 = tupAt (val 4) 2 := h7 _ (Frm.refl _ W)
  have q8 : ∃ b, (val 8) = .pointer (some ⟨b, 0, none⟩) ∧ N ≤ b ∧ Blk W b 39 rz := h8 _ (Frm.refl _ W)
  obtain ⟨B2, e8, hB2, bB2⟩ := q8
  have q9 : ∃ b, (val 9) = .pointer (some ⟨b, 0, none⟩) ∧ N ≤ b ∧ Blk W b 27 dz := h9 _ (Frm.refl _ W)
  obtain ⟨B3, e9, hB3, bB3⟩ := q9
  clear h0 h1 h2 h3 h4 h5 h6 h7 h8 h9
  simp only [aO, Act.put, List.setIfInBounds_toArray, List.set_cons_zero, List.set_cons_succ, Nat.reduceAdd]
  try simp only [e9]
  try simp only [e8]
  try simp only [e7]
  try simp only [e6]
  try simp only [e5]
  try simp only [e4]
  try simp only [e3]
  try simp only [e2]
  try simp only [e1]
  try simp only [e0]
  try simp only [tupAt]
  refine tail_reg3 (w := w1) (fC 1 2 0) v44 [sB] B2 B3 1 2 0 rfl rfl rfl rfl rfl rfl rfl rfl rfl rfl rfl rfl rfl rfl rfl rfl rfl (D.trans gW) (Nat.le_trans HE.out hB2) (Nat.le_trans HE.out hB3) o44 bB2 bB3 ?_
  intro w2 g2 H2 H3
  try simp only [Act.put, List.setIfInBounds_toArray, List.set_cons_zero, List.set_cons_succ]
  refine hK _ _ ?_
  replace H1 := Hid.grow H1 g2
  replace GG := GG.trans g2
  clear gW D HN HE hK e0 e1 e2 e3 e4 e5 e6 e7 e8 e9 o43 o44 hB2 bB2 hB3 bB3
  go_upto_region 3 with fail
  rename_i hK
  obtain ⟨N, hN⟩ : ∃ N, w2.heap.size = N := ⟨_, rfl⟩
  have HN : Hid (∀ W, Frm (fun _ => False) w2 W → N ≤ W.heap.size) := Lib.hid fun W g => hN ▸ g.size
  have HE : Hid (w2.heap.size ≤ N) := Lib.hid (Nat.le_of_eq hN)
  have D : Frm (fun _ => False) w2 w2 := Frm.refl _ _
  clear hN
  refine wp_region_textR 8 3 [[], [0], [1], [1, 2], [1, 2], [1, 2], [], []] kn3M (kn3R vx N) rfl rfl rfl rfl (by kernel_rfl) (by kernel_rfl) (fun val => ?_) ?_
  · try simp only [Act.put, List.setIfInBounds_toArray, List.set_cons_zero, List.set_cons_succ]
    refine RelO.next (k' := 1) rfl (fun W gW hF => ?_) ?_
    focus
      exact OpOK.load (by rfl) _ rfl (by rfl) (load_reg (H1.out W (D.trans gW)).1) (fun W' _ => rfl)
    try simp only [Act.put, List.setIfInBounds_toArray, List.set_cons_zero, List.set_cons_succ]
    refine RelO.next (k' := 2) rfl (fun W gW hF => ?_) ?_
    focus
      obtain ⟨h0, _⟩ := hF
      have e0 : val 0 = rg (f1) vx := h0 _ (Frm.refl _ W)
      try simp only [e0]
      try simp only [tupAt]
      refine OpOK.call (by rfl) ?_ ((kw_b vx W (H1.out W (D.trans gW)).2).mono ?_)
      · first | (go_simp; done) | (go_simp; with_reducible rfl) | (go_simp; rfl)
      · rintro e W1 ⟨v', rfl, o', _, g'⟩
        exact ⟨_, rfl, g', fun W2 g2 => ⟨v', rfl, o'.keep g2 (fun _ _ h => h)⟩⟩
    try simp only [Act.put, List.setIfInBounds_toArray, List.set_cons_zero, List.set_cons_succ]
    refine RelO.next (k' := 3) rfl (fun W gW hF => ?_) ?_
    focus
      obtain ⟨h1, _⟩ := hF
      have q1 : ∃ v', (val 1) = .tuple #[rg (fC 1 2 0) v', .agg (dv 1 2), .int .i64 0] ∧ OwnL W v' [sA, sB] := h1 _ (Frm.refl _ W)
      obtain ⟨v50, e1, o50⟩ := q1
      try simp only [e1]
      try simp only [tupAt]
      refine OpOK.val (u := (val 1)) (by rfl) ?_ (fun W' _ => rfl)
      try simp only [e1]
      try simp only [tupAt]
      first | (go_simp; done) | (go_simp; with_reducible rfl) | (go_simp; rfl)
    try simp only [Act.put, List.setIfInBounds_toArray, List.set_cons_zero, List.set_cons_succ]
    refine RelO.next (k' := 4) rfl (fun W gW hF => ?_) ?_
    focus
      obtain ⟨h1, h2, _⟩ := hF
      have q1 : ∃ v', (val 1) = .tuple #[rg (fC 1 2 0) v', .agg (dv 1 2), .int .i64 0] ∧ OwnL W v' [sA, sB] := h1 _ (Frm.refl _ W)
      obtain ⟨v50, e1, o50⟩ := q1
      have e2 : val 2 = (val 1) := h2 _ (Frm.refl _ W)
      try simp only [e2]
      try simp only [e1]
      try simp only [tupAt]
      refine OpOK.val (u := tupAt (val 2) 0) (by rfl) ?_ (fun W' _ => rfl)
      try simp only [e2]
      try simp only [e1]
      try simp only [tupAt]
      first | (go_simp; done) | (go_simp; with_reducible rfl) | (go_simp; rfl)
    try simp only [Act.put, List.setIfInBounds_toArray, List.set_cons_zero, List.set_cons_succ]
    refine RelO.next (k' := 5) rfl (fun W gW hF => ?_) ?_
    focus
      obtain ⟨h1, h2, _⟩ := hF
      have q1 : ∃ v', (val 1) = .tuple #[rg (fC 1 2 0) v', .agg (dv 1 2), .int .i64 0] ∧ OwnL W v' [sA, sB] := h1 _ (Frm.refl _ W)
      obtain ⟨v50, e1, o50⟩ := q1
      have e2 : val 2 = (val 1) := h2 _ (Frm.refl _ W)
      try simp only [e2]
      try simp only [e1]
      try simp only [tupAt]
      refine OpOK.val (u := tupAt (val 2) 1) (by rfl) ?_ (fun W' _ => rfl)
      try simp only [e2]
      try simp only [e1]
      try simp only [tupAt]
      first | (go_simp; done) | (go_simp; with_reducible rfl) | (go_simp; rfl)
    try simp only [Act.put, List.setIfInBounds_toArray, List.set_cons_zero, List.set_cons_succ]
    refine RelO.next (k' := 6) rfl (fun W gW hF => ?_) ?_
    focus
      obtain ⟨h1, h2, _⟩ := hF
      have q1 : ∃ v', (val 1) = .tuple #[rg (fC 1 2 0) v', .agg (dv 1 2), .int .i64 0] ∧ OwnL W v' [sA, sB] := h1 _ (Frm.refl _ W)
      obtain ⟨v50, e1, o50⟩ := q1
      have e2 : val 2 = (val 1) := h2 _ (Frm.refl _ W)
      try simp only [e2]
      try simp only [e1]
      try simp only [tupAt]
      refine OpOK.val (u := tupAt (val 2) 2) (by rfl) ?_ (fun W' _ => rfl)
      try simp only [e2]
      try simp only [e1]
      try simp only [tupAt]
      first | (go_simp; done) | (go_simp; with_reducible rfl) | (go_simp; rfl)
    try simp only [Act.put, List.setIfInBounds_toArray, List.set_cons_zero, List.set_cons_succ]
    refine RelO.next (k' := 7) rfl (fun W gW hF => ?_) ?_
    focus
      have hlt := HN.out W (D.trans gW)
      refine OpOK.made (W' := W.alloc (.cells rz 39)) (u := .pointer (some ⟨W.heap.size, 0, none⟩)) (by rfl) ?_ ((Frm.refl _ W).alloc _) (fun W2 g2 => ⟨W.heap.size, rfl, hlt, (Blk.alloc W _ _).keep g2 (fun h => h)⟩)
      first | (go_simp; done) | (go_simp; with_reducible rfl) | (go_simp; rfl)
    try simp only [Act.put, List.setIfInBounds_toArray, List.set_cons_zero, List.set_cons_succ]
    refine RelO.next (k' := 8) rfl (fun W gW hF => ?_) ?_
    focus
      have hlt := HN.out W (D.trans gW)
      refine OpOK.made (W' := W.alloc (.cells dz 27)) (u := .pointer (some ⟨W.heap.size, 0, none⟩)) (by rfl) ?_ ((Frm.refl _ W).alloc _) (fun W2 g2 => ⟨W.heap.size, rfl, hlt, (Blk.alloc W _ _).keep g2 (fun h => h)⟩)
      first | (go_simp; done) | (go_simp; with_reducible rfl) | (go_simp; rfl)
    try simp only [Act.put, List.setIfInBounds_toArray, List.set_cons_zero, List.set_cons_succ]
    exact RelO.nil
  intro val W gW hF
  obtain ⟨h0, h1, h2, h3, h4, h5, h6, h7, _⟩ := hF
  have e0 : val 0 = rg (f1) vx := h0 _ (Frm.refl _ W)
  have q1 : ∃ v', (val 1) = .tuple #[rg (fC 1 2 0) v', .agg (dv 1 2), .int .i64 0] ∧ OwnL W v' [sA, sB] := h1 _ (Frm.refl _ W)
  obtain ⟨v50, e1, o50⟩ := q1
  have e2 : val 2 = (val 1) := h2 _ (Frm.refl _ W)
  have e3 : val 3 = tupAt (val 2) 0 := h3 _ (Frm.refl _ W)
  have e4 : val 4 = tupAt (val 2) 1 := h4 _ (Frm.refl _ W)
  have e5 : val 5 = tupAt (val 2) 2 := h5 _ (Frm.refl _ W)
  have q6 : ∃ b, (val 6) = .pointer (some ⟨b, 0, none⟩) ∧ N ≤ b ∧ Blk W b 39 rz := h6 _ (Frm.refl _ W)
  obtain ⟨B5, e6, hB5, bB5⟩ := q6
  have q7 : ∃ b, (val 7) = .pointer (some ⟨b, 0, none⟩) ∧ N ≤ b ∧ Blk W b 27 dz := h7 _ (Frm.refl _ W)
  obtain ⟨B6, e7, hB6, bB6⟩ := q7
  clear h0 h1 h2 h3 h4 h5 h6 h7
  simp only [aO, Act.put, List.setIfInBounds_toArray, List.set_cons_zero, List.set_cons_succ, Nat.reduceAdd]
  try simp only [e7]
  try simp only [e6]
  try simp only [e5]
  try simp only [e4]
  try simp only [e3]
  try simp only [e2]
  try simp only [e1]
  try simp only [e0]
  try simp only [tupAt]
  refine tail_reg3 (w := w2) (fC 1 2 0) v50 [sA, sB] B5 B6 1 2 0 rfl rfl rfl rfl rfl rfl rfl rfl rfl rfl rfl rfl rfl rfl rfl rfl rfl (D.trans gW) (Nat.le_trans HE.out hB5) (Nat.le_trans HE.out hB6) o50 bB5 bB6 ?_
  intro w3 g3 H5 H6
  try simp only [Act.put, List.setIfInBounds_toArray, List.set_cons_zero, List.set_cons_succ]
  refine hK _ _ ?_
  replace H1 := Hid.grow H1 g3
  replace H2 := Hid.grow H2 g3
  replace H3 := Hid.grow H3 g3
  replace GG := GG.trans g3
  clear gW D HN HE hK e0 e1 e2 e3 e4 e5 e6 e7 o50 hB5 bB5 hB6 bB6
  go_upto_region 4 with fail
  rename_i hK
  obtain ⟨N, hN⟩ : ∃ N, w3.heap.size = N := ⟨_, rfl⟩
  have HN : Hid (∀ W, Frm (fun _ => False) w3 W → N ≤ W.heap.size) := Lib.hid fun W g => hN ▸ g.size
  have HE : Hid (w3.heap.size ≤ N) := Lib.hid (Nat.le_of_eq hN)
  have D : Frm (fun _ => False) w3 w3.drew := (Frm.refl _ _).drew
  clear hN
  refine wp_region_late 10 3 [6, 7] [[], [], [1], [0, 2], [3], [3, 4], [3, 4], [3, 4], [], []] kn4M (kn4R vx N) (by kernel_rfl) rfl rfl rfl (by kernel_rfl) (by kernel_rfl) (by kernel_rfl) (by kernel_rfl) rfl (by kernel_rfl) (by kernel_rfl) (by kernel_rfl) (by kernel_rfl) (fun val => ?_) ?_
  · try simp only [Act.put, List.setIfInBounds_toArray, List.set_cons_zero, List.set_cons_succ]
    refine RelO.next (k' := 1) rfl (fun W gW hF => ?_) ?_
    focus
      exact OpOK.load (by rfl) _ rfl (by rfl) (load_reg (H1.out W (D.trans gW)).1) (fun W' _ => rfl)
    try simp only [Act.put, List.setIfInBounds_toArray, List.set_cons_zero, List.set_cons_succ]
    refine RelO.next (k' := 2) rfl (fun W gW hF => ?_) ?_
    focus
      refine OpOK.call (by rfl) ?_ ((dot_any 0 1 W).mono ?_)
      · first | (go_simp; done) | (go_simp; with_reducible rfl) | (go_simp; rfl)
      · rintro e W1 ⟨he, g1⟩
        subst he
        exact ⟨_, rfl, g1, fun W2 _ => rfl⟩
    try simp only [Act.put, List.setIfInBounds_toArray, List.set_cons_zero, List.set_cons_succ]
    refine RelO.next (k' := 3) rfl (fun W gW hF => ?_) ?_
    focus
      obtain ⟨h1, _⟩ := hF
      have e1 : val 1 = .agg (dv 0 1) := h1 _ (Frm.refl _ W)
      try simp only [e1]
      try simp only [tupAt]
      refine OpOK.made (W' := W.alloc (.cells #[.int .u8 0, .int .u32 1] 27)) (u := .slice (some ⟨W.heap.size, 0, none⟩) 1 1) (by rfl) ?_ ((Frm.refl _ W).alloc _) (fun W2 g2 => ⟨_, rfl, (DL.one W dA).keepF g2⟩)
      first | (go_simp; done) | (go_simp; with_reducible rfl) | (go_simp; rfl)
    try simp only [Act.put, List.setIfInBounds_toArray, List.set_cons_zero, List.set_cons_succ]
    refine RelO.next (k' := 4) rfl (fun W gW hF => ?_) ?_
    focus
      obtain ⟨h0, h2, _⟩ := hF
      have e0 : val 0 = rg (f1) vx := h0 _ (Frm.refl _ W)
      have q2 : ∃ x, (val 2) = x ∧ DL W x [dA] := h2 _ (Frm.refl _ W)
      obtain ⟨x57, e2, o57⟩ := q2
      try simp only [e2]
      try simp only [e0]
      try simp only [tupAt]
      refine OpOK.call (by rfl) ?_ ((kd_c vx x57 W (H1.out W (D.trans gW)).2 o57).mono ?_)
      · first | (go_simp; done) | (go_simp; with_reducible rfl) | (go_simp; rfl)
      · rintro e W1 ⟨v', rfl, o', _, g'⟩
        exact ⟨_, rfl, g', fun W2 g2 => ⟨v', rfl, o'.keep g2 (fun _ _ h => h)⟩⟩
    try simp only [Act.put, List.setIfInBounds_toArray, List.set_cons_zero, List.set_cons_succ]
    refine RelO.next (k' := 5) rfl (fun W gW hF => ?_) ?_
    focus
      obtain ⟨h3, _⟩ := hF
      have q3 : ∃ v', (val 3) = .tuple #[rg (fC 1 2 0) v', .agg (dv 1 2), .int .i64 0] ∧ OwnL W v' [] := h3 _ (Frm.refl _ W)
      obtain ⟨v58, e3, o58⟩ := q3
      try simp only [e3]
      try simp only [tupAt]
      refine OpOK.val (u := (val 3)) (by rfl) ?_ (fun W' _ => rfl)
      try simp only [e3]
      try simp only [tupAt]
      first | (go_simp; done) | (go_simp; with_reducible rfl) | (go_simp; rfl)
    try simp only [Act.put, List.setIfInBounds_toArray, List.set_cons_zero, List.set_cons_succ]
    refine RelO.next (k' := 6) rfl (fun W gW hF => ?_) ?_
    focus
      obtain ⟨h3, h4, _⟩ := hF
      have q3 : ∃ v', (val 3) = .tuple #[rg (fC 1 2 0) v', .agg (dv 1 2), .int .i64 0] ∧ OwnL W v' [] := h3 _ (Frm.refl _ W)
      obtain ⟨v58, e3, o58⟩ := q3
      have e4 : val 4 = (val 3) := h4 _ (Frm.refl _ W)
      try simp only [e4]
      try simp only [e3]
      try simp only [tupAt]
      refine OpOK.val (u := tupAt (val 4) 0) (by rfl) ?_ (fun W' _ => rfl)
      try simp only [e4]
      try simp only [e3]
      try simp only [tupAt]
      first | (go_simp; done) | (go_simp; with_reducible rfl) | (go_simp; rfl)
    try simp only [Act.put, List.setIfInBounds_toArray, List.set_cons_zero, List.set_cons_succ]
    refine RelO.next (k' := 7) rfl (fun W gW hF => ?_) ?_
    focus
      obtain ⟨h3, h4, _⟩ := hF
      have q3 : ∃ v', (val 3) = .tuple #[rg (fC 1 2 0) v', .agg (dv 1 2), .int .i64 0] ∧ OwnL W v' [] := h3 _ (Frm.refl _ W)
      obtain ⟨v58, e3, o58⟩ := q3
      have e4 : val 4 = (val 3) := h4 _ (Frm.refl _ W)
      try simp only [e4]
      try simp only [e3]
      try simp only [tupAt]
      refine OpOK.val (u := tupAt (val 4) 1) (by rfl) ?_ (fun W' _ => rfl)
      try simp only [e4]
      try simp only [e3]
      try simp only [tupAt]
      first | (go_simp; done) | (go_simp; with_reducible rfl) | (go_simp; rfl)
    try simp only [Act.put, List.setIfInBounds_toArray, List.set_cons_zero, List.set_cons_succ]
    refine RelO.next (k' := 8) rfl (fun W gW hF => ?_) ?_
    focus
      obtain ⟨h3, h4, _⟩ := hF
      have q3 : ∃ v', (val 3) = .tuple #[rg (fC 1 2 0) v', .agg (dv 1 2), .int .i64 0] ∧ OwnL W v' [] := h3 _ (Frm.refl _ W)
      obtain ⟨v58, e3, o58⟩ := q3
      have e4 : val 4 = (val 3) := h4 _ (Frm.refl _ W)
      try simp only [e4]
      try simp only [e3]
      try simp only [tupAt]
      refine OpOK.val (u := tupAt (val 4) 2) (by rfl) ?_ (fun W' _ => rfl)
      try simp only [e4]
      try simp only [e3]
      try simp only [tupAt]
      first | (go_simp; done) | (go_simp; with_reducible rfl) | (go_simp; rfl)
    try simp only [Act.put, List.setIfInBounds_toArray, List.set_cons_zero, List.set_cons_succ]
    refine RelO.next (k' := 9) rfl (fun W gW hF => ?_) ?_
    focus
      have hlt := HN.out W (D.trans gW)
      refine OpOK.made (W' := W.alloc (.cells rz 39)) (u := .pointer (some ⟨W.heap.size, 0, none⟩)) (by rfl) ?_ ((Frm.refl _ W).alloc _) (fun W2 g2 => ⟨W.heap.size, rfl, hlt, (Blk.alloc W _ _).keep g2 (fun h => h)⟩)
      first | (go_simp; done) | (go_simp; with_reducible rfl) | (go_simp; rfl)
    try simp only [Act.put, List.setIfInBounds_toArray, List.set_cons_zero, List.set_cons_succ]
    refine RelO.next (k' := 10) rfl (fun W gW hF => ?_) ?_
    focus
      have hlt := HN.out W (D.trans gW)
      refine OpOK.made (W' := W.alloc (.cells dz 27)) (u := .pointer (some ⟨W.heap.size, 0, none⟩)) (by rfl) ?_ ((Frm.refl _ W).alloc _) (fun W2 g2 => ⟨W.heap.size, rfl, hlt, (Blk.alloc W _ _).keep g2 (fun h => h)⟩)
      first | (go_simp; done) | (go_simp; with_reducible rfl) | (go_simp; rfl)
    try simp only [Act.put, List.setIfInBounds_toArray, List.set_cons_zero, List.set_cons_succ]
    exact RelO.nil
  intro val W gW hF
  obtain ⟨h0, h1, h2, h3, h4, h5, h6, h7, h8, h9, _⟩ := hF
  have e0 : val 0 = rg (f1) vx := h0 _ (Frm.refl _ W)
  have e1 : val 1 = .agg (dv 0 1) := h1 _ (Frm.refl _ W)
  have q2 : ∃ x, (val 2) = x ∧ DL W x [dA] := h2 _ (Frm.refl _ W)
  obtain ⟨x57, e2, o57⟩ := q2
  have q3 : ∃ v', (val 3) = .tuple #[rg (fC 1 2 0) v', .agg (dv 1 2), .int .i64 0] ∧ OwnL W v' [] := h3 _ (Frm.refl _ W)
  obtain ⟨v58, e3, o58⟩ := q3
  have e4 : val 4 = (val 3) := h4 _ (Frm.refl _ W)
  have e5 : val 5 = tupAt (val 4) 0 := h5 _ (Frm.refl _ W)
  have e6 : val 6 = tupAt (val 4) 1 := h6 _ (Frm.refl _ W)
  have e7 : val 7 = tupAt (val 4) 2 := h7 _ (Frm.refl _ W)
  have q8 : ∃ b, (val 8) = .pointer (some ⟨b, 0, none⟩) ∧ N ≤ b ∧ Blk W b 39 rz := h8 _ (Frm.refl _ W)
  obtain ⟨B8, e8, hB8, bB8⟩ := q8
  have q9 : ∃ b, (val 9) = .pointer (some ⟨b, 0, none⟩) ∧ N ≤ b ∧ Blk W b 27 dz := h9 _ (Frm.refl _ W)
  obtain ⟨B9, e9, hB9, bB9⟩ := q9
  clear h0 h1 h2 h3 h4 h5 h6 h7 h8 h9
  simp only [aO, Act.put, List.setIfInBounds_toArray, List.set_cons_zero, List.set_cons_succ, Nat.reduceAdd]
  try simp only [e9]
  try simp only [e8]
  try simp only [e7]
  try simp only [e6]
  try simp only [e5]
  try simp only [e4]
  try simp only [e3]
  try simp only [e2]
  try simp only [e1]
  try simp only [e0]
  try simp only [tupAt]
  refine tail_reg3 (w := w3) (fC 1 2 0) v58 [] B8 B9 1 2 0 rfl rfl rfl rfl rfl rfl rfl rfl rfl rfl rfl rfl rfl rfl rfl rfl rfl (D.trans gW) (Nat.le_trans HE.out hB8) (Nat.le_trans HE.out hB9) o58 bB8 bB9 ?_
  intro w4 g4 H8 H9
  try simp only [Act.put, List.setIfInBounds_toArray, List.set_cons_zero, List.set_cons_succ]
  refine hK _ _ ?_
  replace H1 := Hid.grow H1 g4
  replace H2 := Hid.grow H2 g4
  replace H3 := Hid.grow H3 g4
  replace H5 := Hid.grow H5 g4
  replace H6 := Hid.grow H6 g4
  replace GG := GG.trans g4
  clear gW D HN HE hK e0 e1 e2 e3 e4 e5 e6 e7 e8 e9 o57 o58 hB8 bB8 hB9 bB9
  go_upto_region 5 with fail
  rename_i hK
  obtain ⟨N, hN⟩ : ∃ N, w4.heap.size = N := ⟨_, rfl⟩
  have HN : Hid (∀ W, Frm (fun _ => False) w4 W → N ≤ W.heap.size) := Lib.hid fun W g => hN ▸ g.size
  have HE : Hid (w4.heap.size ≤ N) := Lib.hid (Nat.le_of_eq hN)
  have D : Frm (fun _ => False) w4 w4.drew := (Frm.refl _ _).drew
  clear hN
  refine wp_region_late 47 0 [] [[], [0], [1], [2], [2], [2], [2, 5], [2, 3, 4, 6], [2, 7], [2, 8], [9], [10], [10], [10, 11, 12], [10, 13], [14], [15], [15, 16], [15, 17], [18], [19], [19], [19], [19], [19, 22, 23], [19, 20, 21, 24], [19, 25], [19, 26], [27], [28], [28, 29], [28, 30], [31], [32], [32], [32, 33, 34], [32, 35], [32, 36], [37], [38], [38], [38, 39, 40], [38, 41], [42], [43], [43, 44], [43, 45]] kn5M (kn5R v44 v50 v58) (by kernel_rfl) rfl rfl rfl (by kernel_rfl) (by kernel_rfl) (by kernel_rfl) (by kernel_rfl) rfl (by kernel_rfl) (by kernel_rfl) (by kernel_rfl) (by kernel_rfl) (fun val => ?_) ?_
  · try dsimp only
    refine RelO.next (k' := 1) rfl (fun W gW hF => ?_) ?_
    focus
      refine OpOK.call (by rfl) ?_ ((sworks_any W).mono ?_)
      · first | (go_simp; done) | (go_simp; with_reducible rfl) | (go_simp; rfl)
      · rintro e W1 ⟨he, g1⟩
        subst he
        exact ⟨_, rfl, g1, fun W2 _ => rfl⟩
    try simp only [Act.put, List.setIfInBounds_toArray, List.set_cons_zero, List.set_cons_succ]
    refine RelO.next (k' := 2) rfl (fun W gW hF => ?_) ?_
    focus
      obtain ⟨h0, _⟩ := hF
      have e0 : val 0 = .bool true := h0 _ (Frm.refl _ W)
      try simp only [e0]
      try simp only [tupAt]
      refine OpOK.val (u := .bool false) (by rfl) ?_ (fun W' _ => rfl)
      try simp only [e0]
      try simp only [tupAt]
      first | (go_simp; done) | (go_simp; with_reducible rfl) | (go_simp; rfl)
    try simp only [Act.put, List.setIfInBounds_toArray, List.set_cons_zero, List.set_cons_succ]
    refine RelO.next (k' := 3) rfl (fun W gW hF => ?_) ?_
    focus
      obtain ⟨h1, _⟩ := hF
      have e1 : val 1 = .bool false := h1 _ (Frm.refl _ W)
      try simp only [e1]
      try simp only [tupAt]
      refine OpOK.val (u := .bool false) (by rfl) ?_ (fun W' _ => rfl)
      try simp only [e1]
      try simp only [tupAt]
      first | (go_simp; done) | (go_simp; with_reducible rfl) | (go_simp; rfl)
    try simp only [Act.put, List.setIfInBounds_toArray, List.set_cons_zero, List.set_cons_succ]
    refine RelO.next (k' := 4) rfl (fun W gW hF => ?_) ?_
    focus
      obtain ⟨h2, _⟩ := hF
      have e2 : val 2 = .bool false := h2 _ (Frm.refl _ W)
      try simp only [e2]
      try simp only [tupAt]
      exact OpOK.load (by rfl) _ rfl (by rfl) (load_reg (H2.out W (D.trans gW)).1) (fun W' _ => rfl)
    try simp only [Act.put, List.setIfInBounds_toArray, List.set_cons_zero, List.set_cons_succ]
    refine RelO.next (k' := 5) rfl (fun W gW hF => ?_) ?_
    focus
      obtain ⟨h2, _⟩ := hF
      have e2 : val 2 = .bool false := h2 _ (Frm.refl _ W)
      try simp only [e2]
      try simp only [tupAt]
      exact OpOK.val (u := .agg (vv (fC 1 2 0))) (by rfl) (by go_simp; first | rfl | simp [fC]) (fun W' _ => rfl)
    try simp only [Act.put, List.setIfInBounds_toArray, List.set_cons_zero, List.set_cons_succ]
    refine RelO.next (k' := 6) rfl (fun W gW hF => ?_) ?_
    focus
      obtain ⟨h2, _⟩ := hF
      have e2 : val 2 = .bool false := h2 _ (Frm.refl _ W)
      try simp only [e2]
      try simp only [tupAt]
      refine OpOK.call (by rfl) ?_ ((sib_any 1 2 [98] W).mono ?_)
      · first | (go_simp; done) | (go_simp; with_reducible rfl) | (go_simp; rfl)
      · rintro e W1 ⟨he, g1⟩
        subst he
        exact ⟨_, rfl, g1, fun W2 _ => rfl⟩
    try simp only [Act.put, List.setIfInBounds_toArray, List.set_cons_zero, List.set_cons_succ]
    refine RelO.next (k' := 7) rfl (fun W gW hF => ?_) ?_
    focus
      obtain ⟨h2, h5, _⟩ := hF
      have e2 : val 2 = .bool false := h2 _ (Frm.refl _ W)
      have e5 : val 5 = .agg #[.int .u8 1, .int .u32 2, .string (bs [98])] := h5 _ (Frm.refl _ W)
      try simp only [e5]
      try simp only [e2]
      try simp only [tupAt]
      refine OpOK.made (W' := W.alloc (.cells #[.int .u8 1, .int .u32 2, .string (bs [98])] 76)) (u := .slice (some ⟨W.heap.size, 0, none⟩) 1 1) (by rfl) ?_ ((Frm.refl _ W).alloc _) (fun W2 g2 => ⟨_, rfl, (OwnL.sl (OwnL.one W sB)).keepF g2⟩)
      first | (go_simp; done) | (go_simp; with_reducible rfl) | (go_simp; rfl)
    try simp only [Act.put, List.setIfInBounds_toArray, List.set_cons_zero, List.set_cons_succ]
    refine RelO.next (k' := 8) rfl (fun W gW hF => ?_) ?_
    focus
      obtain ⟨h2, h3, h4, h6, _⟩ := hF
      have e2 : val 2 = .bool false := h2 _ (Frm.refl _ W)
      have e3 : val 3 = rg (fC 1 2 0) v44 := h3 _ (Frm.refl _ W)
      have e4 : val 4 = .agg (vv (fC 1 2 0)) := h4 _ (Frm.refl _ W)
      have q6 : ∃ x, (val 6) = x ∧ SL W x [sB] := h6 _ (Frm.refl _ W)
      obtain ⟨x68, e6, o68⟩ := q6
      try simp only [e6]
      try simp only [e4]
      try simp only [e3]
      try simp only [e2]
      try simp only [tupAt]
      refine OpOK.call (by rfl) ?_ ((is_any (fC 1 2 0) (fC 1 2 0) v44 x68 [sB] [sB] W (H2.out W (D.trans gW)).2 o68).mono ?_)
      · first | (go_simp; done) | (go_simp; with_reducible rfl) | (go_simp; rfl)
      · rintro e W1 ⟨he, g1⟩
        rw [(by decide : (eq8 (fC 1 2 0) (fC 1 2 0) && decide (([sB] : List SibI) = [sB])) = true)] at he
        subst he
        exact ⟨_, rfl, g1, fun W2 _ => rfl⟩
    try simp only [Act.put, List.setIfInBounds_toArray, List.set_cons_zero, List.set_cons_succ]
    refine RelO.next (k' := 9) rfl (fun W gW hF => ?_) ?_
    focus
      obtain ⟨h2, h7, _⟩ := hF
      have e2 : val 2 = .bool false := h2 _ (Frm.refl _ W)
      have e7 : val 7 = .bool true := h7 _ (Frm.refl _ W)
      try simp only [e7]
      try simp only [e2]
      try simp only [tupAt]
      refine OpOK.val (u := .bool false) (by rfl) ?_ (fun W' _ => rfl)
      try simp only [e7]
      try simp only [e2]
      try simp only [tupAt]
      first | (go_simp; done) | (go_simp; with_reducible rfl) | (go_simp; rfl)
    try simp only [Act.put, List.setIfInBounds_toArray, List.set_cons_zero, List.set_cons_succ]
    refine RelO.next (k' := 10) rfl (fun W gW hF => ?_) ?_
    focus
      obtain ⟨h2, h8, _⟩ := hF
      have e2 : val 2 = .bool false := h2 _ (Frm.refl _ W)
      have e8 : val 8 = .bool false := h8 _ (Frm.refl _ W)
      try simp only [e8]
      try simp only [e2]
      try simp only [tupAt]
      refine OpOK.val (u := .bool false) (by rfl) ?_ (fun W' _ => rfl)
      try simp only [e8]
      try simp only [e2]
      try simp only [tupAt]
      first | (go_simp; done) | (go_simp; with_reducible rfl) | (go_simp; rfl)
    try simp only [Act.put, List.setIfInBounds_toArray, List.set_cons_zero, List.set_cons_succ]
    refine RelO.next (k' := 11) rfl (fun W gW hF => ?_) ?_
    focus
      obtain ⟨h9, _⟩ := hF
      have e9 : val 9 = .bool false := h9 _ (Frm.refl _ W)
      try simp only [e9]
      try simp only [tupAt]
      refine OpOK.val (u := .bool false) (by rfl) ?_ (fun W' _ => rfl)
      try simp only [e9]
      try simp only [tupAt]
      first | (go_simp; done) | (go_simp; with_reducible rfl) | (go_simp; rfl)
    try simp only [Act.put, List.setIfInBounds_toArray, List.set_cons_zero, List.set_cons_succ]
    refine RelO.next (k' := 12) rfl (fun W gW hF => ?_) ?_
    focus
      obtain ⟨h10, _⟩ := hF
      have e10 : val 10 = .bool false := h10 _ (Frm.refl _ W)
      try simp only [e10]
      try simp only [tupAt]
      exact OpOK.load (by rfl) _ rfl (by rfl) (load_dotB (H3.out W (D.trans gW))) (fun W' _ => rfl)
    try simp only [Act.put, List.setIfInBounds_toArray, List.set_cons_zero, List.set_cons_succ]
    refine RelO.next (k' := 13) rfl (fun W gW hF => ?_) ?_
    focus
      obtain ⟨h10, _⟩ := hF
      have e10 : val 10 = .bool false := h10 _ (Frm.refl _ W)
      try simp only [e10]
      try simp only [tupAt]
      refine OpOK.call (by rfl) ?_ ((dot_any 1 2 W).mono ?_)
      · first | (go_simp; done) | (go_simp; with_reducible rfl) | (go_simp; rfl)
      · rintro e W1 ⟨he, g1⟩
        subst he
        exact ⟨_, rfl, g1, fun W2 _ => rfl⟩
    try simp only [Act.put, List.setIfInBounds_toArray, List.set_cons_zero, List.set_cons_succ]
    refine RelO.next (k' := 14) rfl (fun W gW hF => ?_) ?_
    focus
      obtain ⟨h10, h11, h12, _⟩ := hF
      have e10 : val 10 = .bool false := h10 _ (Frm.refl _ W)
      have e11 : val 11 = .agg (dv 1 2) := h11 _ (Frm.refl _ W)
      have e12 : val 12 = .agg (dv 1 2) := h12 _ (Frm.refl _ W)
      try simp only [e12]
      try simp only [e11]
      try simp only [e10]
      try simp only [tupAt]
      refine OpOK.val (u := .bool false) (by rfl) ?_ (fun W' _ => rfl)
      try simp only [e12]
      try simp only [e11]
      try simp only [e10]
      try simp only [tupAt]
      first | (go_simp; done) | (go_simp; with_reducible rfl) | (go_simp; rfl)
    try simp only [Act.put, List.setIfInBounds_toArray, List.set_cons_zero, List.set_cons_succ]
    refine RelO.next (k' := 15) rfl (fun W gW hF => ?_) ?_
    focus
      obtain ⟨h10, h13, _⟩ := hF
      have e10 : val 10 = .bool false := h10 _ (Frm.refl _ W)
      have e13 : val 13 = .bool false := h13 _ (Frm.refl _ W)
      try simp only [e13]
      try simp only [e10]
      try simp only [tupAt]
      refine OpOK.val (u := .bool false) (by rfl) ?_ (fun W' _ => rfl)
      try simp only [e13]
      try simp only [e10]
      try simp only [tupAt]
      first | (go_simp; done) | (go_simp; with_reducible rfl) | (go_simp; rfl)
    try simp only [Act.put, List.setIfInBounds_toArray, List.set_cons_zero, List.set_cons_succ]
    refine RelO.next (k' := 16) rfl (fun W gW hF => ?_) ?_
    focus
      obtain ⟨h14, _⟩ := hF
      have e14 : val 14 = .bool false := h14 _ (Frm.refl _ W)
      try simp only [e14]
      try simp only [tupAt]
      refine OpOK.val (u := .bool false) (by rfl) ?_ (fun W' _ => rfl)
      try simp only [e14]
      try simp only [tupAt]
      first | (go_simp; done) | (go_simp; with_reducible rfl) | (go_simp; rfl)
    try simp only [Act.put, List.setIfInBounds_toArray, List.set_cons_zero, List.set_cons_succ]
    refine RelO.next (k' := 17) rfl (fun W gW hF => ?_) ?_
    focus
      obtain ⟨h15, _⟩ := hF
      have e15 : val 15 = .bool false := h15 _ (Frm.refl _ W)
      try simp only [e15]
      try simp only [tupAt]
      refine OpOK.val (u := .int .i64 0) (by rfl) ?_ (fun W' _ => rfl)
      try simp only [e15]
      try simp only [tupAt]
      first | (go_simp; done) | (go_simp; with_reducible rfl) | (go_simp; rfl)
    try simp only [Act.put, List.setIfInBounds_toArray, List.set_cons_zero, List.set_cons_succ]
    refine RelO.next (k' := 18) rfl (fun W gW hF => ?_) ?_
    focus
      obtain ⟨h15, h16, _⟩ := hF
      have e15 : val 15 = .bool false := h15 _ (Frm.refl _ W)
      have e16 : val 16 = .int .i64 0 := h16 _ (Frm.refl _ W)
      try simp only [e16]
      try simp only [e15]
      try simp only [tupAt]
      refine OpOK.val (u := .bool false) (by rfl) ?_ (fun W' _ => rfl)
      try simp only [e16]
      try simp only [e15]
      try simp only [tupAt]
      first | (go_simp; done) | (go_simp; with_reducible rfl) | (go_simp; rfl)
    try simp only [Act.put, List.setIfInBounds_toArray, List.set_cons_zero, List.set_cons_succ]
    refine RelO.next (k' := 19) rfl (fun W gW hF => ?_) ?_
    focus
      obtain ⟨h15, h17, _⟩ := hF
      have e15 : val 15 = .bool false := h15 _ (Frm.refl _ W)
      have e17 : val 17 = .bool false := h17 _ (Frm.refl _ W)
      try simp only [e17]
      try simp only [e15]
      try simp only [tupAt]
      refine OpOK.val (u := .bool false) (by rfl) ?_ (fun W' _ => rfl)
      try simp only [e17]
      try simp only [e15]
      try simp only [tupAt]
      first | (go_simp; done) | (go_simp; with_reducible rfl) | (go_simp; rfl)
    try simp only [Act.put, List.setIfInBounds_toArray, List.set_cons_zero, List.set_cons_succ]
    refine RelO.next (k' := 20) rfl (fun W gW hF => ?_) ?_
    focus
      obtain ⟨h18, _⟩ := hF
      have e18 : val 18 = .bool false := h18 _ (Frm.refl _ W)
      try simp only [e18]
      try simp only [tupAt]
      refine OpOK.val (u := .bool false) (by rfl) ?_ (fun W' _ => rfl)
      try simp only [e18]
      try simp only [tupAt]
      first | (go_simp; done) | (go_simp; with_reducible rfl) | (go_simp; rfl)
    try simp only [Act.put, List.setIfInBounds_toArray, List.set_cons_zero, List.set_cons_succ]
    refine RelO.next (k' := 21) rfl (fun W gW hF => ?_) ?_
    focus
      obtain ⟨h19, _⟩ := hF
      have e19 : val 19 = .bool false := h19 _ (Frm.refl _ W)
      try simp only [e19]
      try simp only [tupAt]
      exact OpOK.load (by rfl) _ rfl (by rfl) (load_reg (H5.out W (D.trans gW)).1) (fun W' _ => rfl)
    try simp only [Act.put, List.setIfInBounds_toArray, List.set_cons_zero, List.set_cons_succ]
    refine RelO.next (k' := 22) rfl (fun W gW hF => ?_) ?_
    focus
      obtain ⟨h19, _⟩ := hF
      have e19 : val 19 = .bool false := h19 _ (Frm.refl _ W)
      try simp only [e19]
      try simp only [tupAt]
      exact OpOK.val (u := .agg (vv (fC 1 2 0))) (by rfl) (by go_simp; first | rfl | simp [fC]) (fun W' _ => rfl)
    try simp only [Act.put, List.setIfInBounds_toArray, List.set_cons_zero, List.set_cons_succ]
    refine RelO.next (k' := 23) rfl (fun W gW hF => ?_) ?_
    focus
      obtain ⟨h19, _⟩ := hF
      have e19 : val 19 = .bool false := h19 _ (Frm.refl _ W)
      try simp only [e19]
      try simp only [tupAt]
      refine OpOK.call (by rfl) ?_ ((sib_any 0 1 [97] W).mono ?_)
      · first | (go_simp; done) | (go_simp; with_reducible rfl) | (go_simp; rfl)
      · rintro e W1 ⟨he, g1⟩
        subst he
        exact ⟨_, rfl, g1, fun W2 _ => rfl⟩
    try simp only [Act.put, List.setIfInBounds_toArray, List.set_cons_zero, List.set_cons_succ]
    refine RelO.next (k' := 24) rfl (fun W gW hF => ?_) ?_
    focus
      obtain ⟨h19, _⟩ := hF
      have e19 : val 19 = .bool false := h19 _ (Frm.refl _ W)
      try simp only [e19]
      try simp only [tupAt]
      refine OpOK.call (by rfl) ?_ ((sib_any 1 2 [98] W).mono ?_)
      · first | (go_simp; done) | (go_simp; with_reducible rfl) | (go_simp; rfl)
      · rintro e W1 ⟨he, g1⟩
        subst he
        exact ⟨_, rfl, g1, fun W2 _ => rfl⟩
    try simp only [Act.put, List.setIfInBounds_toArray, List.set_cons_zero, List.set_cons_succ]
    refine RelO.next (k' := 25) rfl (fun W gW hF => ?_) ?_
    focus
      obtain ⟨h19, h22, h23, _⟩ := hF
      have e19 : val 19 = .bool false := h19 _ (Frm.refl _ W)
      have e22 : val 22 = .agg #[.int .u8 0, .int .u32 1, .string (bs [97])] := h22 _ (Frm.refl _ W)
      have e23 : val 23 = .agg #[.int .u8 1, .int .u32 2, .string (bs [98])] := h23 _ (Frm.refl _ W)
      try simp only [e23]
      try simp only [e22]
      try simp only [e19]
      try simp only [tupAt]
      refine OpOK.made (W' := W.alloc (.cells #[.int .u8 0, .int .u32 1, .string (bs [97]), .int .u8 1, .int .u32 2, .string (bs [98])] 76)) (u := .slice (some ⟨W.heap.size, 0, none⟩) 2 2) (by rfl) ?_ ((Frm.refl _ W).alloc _) (fun W2 g2 => ⟨_, rfl, (SL.two W sA sB).keepF g2⟩)
      first | (go_simp; done) | (go_simp; with_reducible rfl) | (go_simp; rfl)
    try simp only [Act.put, List.setIfInBounds_toArray, List.set_cons_zero, List.set_cons_succ]
    refine RelO.next (k' := 26) rfl (fun W gW hF => ?_) ?_
    focus
      obtain ⟨h19, h20, h21, h24, _⟩ := hF
      have e19 : val 19 = .bool false := h19 _ (Frm.refl _ W)
      have e20 : val 20 = rg (fC 1 2 0) v50 := h20 _ (Frm.refl _ W)
      have e21 : val 21 = .agg (vv (fC 1 2 0)) := h21 _ (Frm.refl _ W)
      have q24 : ∃ x, (val 24) = x ∧ SL W x [sA, sB] := h24 _ (Frm.refl _ W)
      obtain ⟨x86, e24, o86⟩ := q24
      try simp only [e24]
      try simp only [e21]
      try simp only [e20]
      try simp only [e19]
      try simp only [tupAt]
      refine OpOK.call (by rfl) ?_ ((is_any (fC 1 2 0) (fC 1 2 0) v50 x86 [sA, sB] [sA, sB] W (H5.out W (D.trans gW)).2 o86).mono ?_)
      · first | (go_simp; done) | (go_simp; with_reducible rfl) | (go_simp; rfl)
      · rintro e W1 ⟨he, g1⟩
        rw [(by decide : (eq8 (fC 1 2 0) (fC 1 2 0) && decide (([sA, sB] : List SibI) = [sA, sB])) = true)] at he
        subst he
        exact ⟨_, rfl, g1, fun W2 _ => rfl⟩
    try simp only [Act.put, List.setIfInBounds_toArray, List.set_cons_zero, List.set_cons_succ]
    refine RelO.next (k' := 27) rfl (fun W gW hF => ?_) ?_
    focus
      obtain ⟨h19, h25, _⟩ := hF
      have e19 : val 19 = .bool false := h19 _ (Frm.refl _ W)
      have e25 : val 25 = .bool true := h25 _ (Frm.refl _ W)
      try simp only [e25]
      try simp only [e19]
      try simp only [tupAt]
      refine OpOK.val (u := .bool false) (by rfl) ?_ (fun W' _ => rfl)
      try simp only [e25]
      try simp only [e19]
      try simp only [tupAt]
      first | (go_simp; done) | (go_simp; with_reducible rfl) | (go_simp; rfl)
    try simp only [Act.put, List.setIfInBounds_toArray, List.set_cons_zero, List.set_cons_succ]
    refine RelO.next (k' := 28) rfl (fun W gW hF => ?_) ?_
    focus
      obtain ⟨h19, h26, _⟩ := hF
      have e19 : val 19 = .bool false := h19 _ (Frm.refl _ W)
      have e26 : val 26 = .bool false := h26 _ (Frm.refl _ W)
      try simp only [e26]
      try simp only [e19]
      try simp only [tupAt]
      refine OpOK.val (u := .bool false) (by rfl) ?_ (fun W' _ => rfl)
      try simp only [e26]
      try simp only [e19]
      try simp only [tupAt]
      first | (go_simp; done) | (go_simp; with_reducible rfl) | (go_simp; rfl)
    try simp only [Act.put, List.setIfInBounds_toArray, List.set_cons_zero, List.set_cons_succ]
    refine RelO.next (k' := 29) rfl (fun W gW hF => ?_) ?_
    focus
      obtain ⟨h27, _⟩ := hF
      have e27 : val 27 = .bool false := h27 _ (Frm.refl _ W)
      try simp only [e27]
      try simp only [tupAt]
      refine OpOK.val (u := .bool false) (by rfl) ?_ (fun W' _ => rfl)
      try simp only [e27]
      try simp only [tupAt]
      first | (go_simp; done) | (go_simp; with_reducible rfl) | (go_simp; rfl)
    try simp only [Act.put, List.setIfInBounds_toArray, List.set_cons_zero, List.set_cons_succ]
    refine RelO.next (k' := 30) rfl (fun W gW hF => ?_) ?_
    focus
      obtain ⟨h28, _⟩ := hF
      have e28 : val 28 = .bool false := h28 _ (Frm.refl _ W)
      try simp only [e28]
      try simp only [tupAt]
      refine OpOK.val (u := .int .i64 0) (by rfl) ?_ (fun W' _ => rfl)
      try simp only [e28]
      try simp only [tupAt]
      first | (go_simp; done) | (go_simp; with_reducible rfl) | (go_simp; rfl)
    try simp only [Act.put, List.setIfInBounds_toArray, List.set_cons_zero, List.set_cons_succ]
    refine RelO.next (k' := 31) rfl (fun W gW hF => ?_) ?_
    focus
      obtain ⟨h28, h29, _⟩ := hF
      have e28 : val 28 = .bool false := h28 _ (Frm.refl _ W)
      have e29 : val 29 = .int .i64 0 := h29 _ (Frm.refl _ W)
      try simp only [e29]
      try simp only [e28]
      try simp only [tupAt]
      refine OpOK.val (u := .bool false) (by rfl) ?_ (fun W' _ => rfl)
      try simp only [e29]
      try simp only [e28]
      try simp only [tupAt]
      first | (go_simp; done) | (go_simp; with_reducible rfl) | (go_simp; rfl)
    try simp only [Act.put, List.setIfInBounds_toArray, List.set_cons_zero, List.set_cons_succ]
    refine RelO.next (k' := 32) rfl (fun W gW hF => ?_) ?_
    focus
      obtain ⟨h28, h30, _⟩ := hF
      have e28 : val 28 = .bool false := h28 _ (Frm.refl _ W)
      have e30 : val 30 = .bool false := h30 _ (Frm.refl _ W)
      try simp only [e30]
      try simp only [e28]
      try simp only [tupAt]
      refine OpOK.val (u := .bool false) (by rfl) ?_ (fun W' _ => rfl)
      try simp only [e30]
      try simp only [e28]
      try simp only [tupAt]
      first | (go_simp; done) | (go_simp; with_reducible rfl) | (go_simp; rfl)
    try simp only [Act.put, List.setIfInBounds_toArray, List.set_cons_zero, List.set_cons_succ]
    refine RelO.next (k' := 33) rfl (fun W gW hF => ?_) ?_
    focus
      obtain ⟨h31, _⟩ := hF
      have e31 : val 31 = .bool false := h31 _ (Frm.refl _ W)
      try simp only [e31]
      try simp only [tupAt]
      refine OpOK.val (u := .bool false) (by rfl) ?_ (fun W' _ => rfl)
      try simp only [e31]
      try simp only [tupAt]
      first | (go_simp; done) | (go_simp; with_reducible rfl) | (go_simp; rfl)
    try simp only [Act.put, List.setIfInBounds_toArray, List.set_cons_zero, List.set_cons_succ]
    refine RelO.next (k' := 34) rfl (fun W gW hF => ?_) ?_
    focus
      obtain ⟨h32, _⟩ := hF
      have e32 : val 32 = .bool false := h32 _ (Frm.refl _ W)
      try simp only [e32]
      try simp only [tupAt]
      exact OpOK.load (by rfl) _ rfl (by rfl) (load_reg (H8.out W (D.trans gW)).1) (fun W' _ => rfl)
    try simp only [Act.put, List.setIfInBounds_toArray, List.set_cons_zero, List.set_cons_succ]
    refine RelO.next (k' := 35) rfl (fun W gW hF => ?_) ?_
    focus
      obtain ⟨h32, _⟩ := hF
      have e32 : val 32 = .bool false := h32 _ (Frm.refl _ W)
      try simp only [e32]
      try simp only [tupAt]
      exact OpOK.val (u := .agg (vv (fC 1 2 0))) (by rfl) (by go_simp; first | rfl | simp [fC]) (fun W' _ => rfl)
    try simp only [Act.put, List.setIfInBounds_toArray, List.set_cons_zero, List.set_cons_succ]
    refine RelO.next (k' := 36) rfl (fun W gW hF => ?_) ?_
    focus
      obtain ⟨h32, h33, h34, _⟩ := hF
      have e32 : val 32 = .bool false := h32 _ (Frm.refl _ W)
      have e33 : val 33 = rg (fC 1 2 0) v58 := h33 _ (Frm.refl _ W)
      have e34 : val 34 = .agg (vv (fC 1 2 0)) := h34 _ (Frm.refl _ W)
      try simp only [e34]
      try simp only [e33]
      try simp only [e32]
      try simp only [tupAt]
      refine OpOK.call (by rfl) ?_ ((is_any (fC 1 2 0) (fC 1 2 0) v58 (.slice none 0 0) [] [] W (H8.out W (D.trans gW)).2 (OwnL.nil_ W).sl).mono ?_)
      · first | (go_simp; done) | (go_simp; with_reducible rfl) | (go_simp; rfl)
      · rintro e W1 ⟨he, g1⟩
        rw [(by decide : (eq8 (fC 1 2 0) (fC 1 2 0) && decide (([] : List SibI) = [])) = true)] at he
        subst he
        exact ⟨_, rfl, g1, fun W2 _ => rfl⟩
    try simp only [Act.put, List.setIfInBounds_toArray, List.set_cons_zero, List.set_cons_succ]
    refine RelO.next (k' := 37) rfl (fun W gW hF => ?_) ?_
    focus
      obtain ⟨h32, h35, _⟩ := hF
      have e32 : val 32 = .bool false := h32 _ (Frm.refl _ W)
      have e35 : val 35 = .bool true := h35 _ (Frm.refl _ W)
      try simp only [e35]
      try simp only [e32]
      try simp only [tupAt]
      refine OpOK.val (u := .bool false) (by rfl) ?_ (fun W' _ => rfl)
      try simp only [e35]
      try simp only [e32]
      try simp only [tupAt]
      first | (go_simp; done) | (go_simp; with_reducible rfl) | (go_simp; rfl)
    try simp only [Act.put, List.setIfInBounds_toArray, List.set_cons_zero, List.set_cons_succ]
    refine RelO.next (k' := 38) rfl (fun W gW hF => ?_) ?_
    focus
      obtain ⟨h32, h36, _⟩ := hF
      have e32 : val 32 = .bool false := h32 _ (Frm.refl _ W)
      have e36 : val 36 = .bool false := h36 _ (Frm.refl _ W)
      try simp only [e36]
      try simp only [e32]
      try simp only [tupAt]
      refine OpOK.val (u := .bool false) (by rfl) ?_ (fun W' _ => rfl)
      try simp only [e36]
      try simp only [e32]
      try simp only [tupAt]
      first | (go_simp; done) | (go_simp; with_reducible rfl) | (go_simp; rfl)
    try simp only [Act.put, List.setIfInBounds_toArray, List.set_cons_zero, List.set_cons_succ]
    refine RelO.next (k' := 39) rfl (fun W gW hF => ?_) ?_
    focus
      obtain ⟨h37, _⟩ := hF
      have e37 : val 37 = .bool false := h37 _ (Frm.refl _ W)
      try simp only [e37]
      try simp only [tupAt]
      refine OpOK.val (u := .bool false) (by rfl) ?_ (fun W' _ => rfl)
      try simp only [e37]
      try simp only [tupAt]
      first | (go_simp; done) | (go_simp; with_reducible rfl) | (go_simp; rfl)
    try simp only [Act.put, List.setIfInBounds_toArray, List.set_cons_zero, List.set_cons_succ]
    refine RelO.next (k' := 40) rfl (fun W gW hF => ?_) ?_
    focus
      obtain ⟨h38, _⟩ := hF
      have e38 : val 38 = .bool false := h38 _ (Frm.refl _ W)
      try simp only [e38]
      try simp only [tupAt]
      exact OpOK.load (by rfl) _ rfl (by rfl) (load_dotB (H9.out W (D.trans gW))) (fun W' _ => rfl)
    try simp only [Act.put, List.setIfInBounds_toArray, List.set_cons_zero, List.set_cons_succ]
    refine RelO.next (k' := 41) rfl (fun W gW hF => ?_) ?_
    focus
      obtain ⟨h38, _⟩ := hF
      have e38 : val 38 = .bool false := h38 _ (Frm.refl _ W)
      try simp only [e38]
      try simp only [tupAt]
      refine OpOK.call (by rfl) ?_ ((dot_any 1 2 W).mono ?_)
      · first | (go_simp; done) | (go_simp; with_reducible rfl) | (go_simp; rfl)
      · rintro e W1 ⟨he, g1⟩
        subst he
        exact ⟨_, rfl, g1, fun W2 _ => rfl⟩
    try simp only [Act.put, List.setIfInBounds_toArray, List.set_cons_zero, List.set_cons_succ]
    refine RelO.next (k' := 42) rfl (fun W gW hF => ?_) ?_
    focus
      obtain ⟨h38, h39, h40, _⟩ := hF
      have e38 : val 38 = .bool false := h38 _ (Frm.refl _ W)
      have e39 : val 39 = .agg (dv 1 2) := h39 _ (Frm.refl _ W)
      have e40 : val 40 = .agg (dv 1 2) := h40 _ (Frm.refl _ W)
      try simp only [e40]
      try simp only [e39]
      try simp only [e38]
      try simp only [tupAt]
      refine OpOK.val (u := .bool false) (by rfl) ?_ (fun W' _ => rfl)
      try simp only [e40]
      try simp only [e39]
      try simp only [e38]
      try simp only [tupAt]
      first | (go_simp; done) | (go_simp; with_reducible rfl) | (go_simp; rfl)
    try simp only [Act.put, List.setIfInBounds_toArray, List.set_cons_zero, List.set_cons_succ]
    refine RelO.next (k' := 43) rfl (fun W gW hF => ?_) ?_
    focus
      obtain ⟨h38, h41, _⟩ := hF
      have e38 : val 38 = .bool false := h38 _ (Frm.refl _ W)
      have e41 : val 41 = .bool false := h41 _ (Frm.refl _ W)
      try simp only [e41]
      try simp only [e38]
      try simp only [tupAt]
      refine OpOK.val (u := .bool false) (by rfl) ?_ (fun W' _ => rfl)
      try simp only [e41]
      try simp only [e38]
      try simp only [tupAt]
      first | (go_simp; done) | (go_simp; with_reducible rfl) | (go_simp; rfl)
    try simp only [Act.put, List.setIfInBounds_toArray, List.set_cons_zero, List.set_cons_succ]
    refine RelO.next (k' := 44) rfl (fun W gW hF => ?_) ?_
    focus
      obtain ⟨h42, _⟩ := hF
      have e42 : val 42 = .bool false := h42 _ (Frm.refl _ W)
      try simp only [e42]
      try simp only [tupAt]
      refine OpOK.val (u := .bool false) (by rfl) ?_ (fun W' _ => rfl)
      try simp only [e42]
      try simp only [tupAt]
      first | (go_simp; done) | (go_simp; with_reducible rfl) | (go_simp; rfl)
    try simp only [Act.put, List.setIfInBounds_toArray, List.set_cons_zero, List.set_cons_succ]
    refine RelO.next (k' := 45) rfl (fun W gW hF => ?_) ?_
    focus
      obtain ⟨h43, _⟩ := hF
      have e43 : val 43 = .bool false := h43 _ (Frm.refl _ W)
      try simp only [e43]
      try simp only [tupAt]
      refine OpOK.val (u := .int .i64 0) (by rfl) ?_ (fun W' _ => rfl)
      try simp only [e43]
      try simp only [tupAt]
      first | (go_simp; done) | (go_simp; with_reducible rfl) | (go_simp; rfl)
    try simp only [Act.put, List.setIfInBounds_toArray, List.set_cons_zero, List.set_cons_succ]
    refine RelO.next (k' := 46) rfl (fun W gW hF => ?_) ?_
    focus
      obtain ⟨h43, h44, _⟩ := hF
      have e43 : val 43 = .bool false := h43 _ (Frm.refl _ W)
      have e44 : val 44 = .int .i64 0 := h44 _ (Frm.refl _ W)
      try simp only [e44]
      try simp only [e43]
      try simp only [tupAt]
      refine OpOK.val (u := .bool false) (by rfl) ?_ (fun W' _ => rfl)
      try simp only [e44]
      try simp only [e43]
      try simp only [tupAt]
      first | (go_simp; done) | (go_simp; with_reducible rfl) | (go_simp; rfl)
    try simp only [Act.put, List.setIfInBounds_toArray, List.set_cons_zero, List.set_cons_succ]
    refine RelO.next (k' := 47) rfl (fun W gW hF => ?_) ?_
    focus
      obtain ⟨h43, h45, _⟩ := hF
      have e43 : val 43 = .bool false := h43 _ (Frm.refl _ W)
      have e45 : val 45 = .bool false := h45 _ (Frm.refl _ W)
      try simp only [e45]
      try simp only [e43]
      try simp only [tupAt]
      refine OpOK.val (u := .bool false) (by rfl) ?_ (fun W' _ => rfl)
      try simp only [e45]
      try simp only [e43]
      try simp only [tupAt]
      first | (go_simp; done) | (go_simp; with_reducible rfl) | (go_simp; rfl)
    try simp only [Act.put, List.setIfInBounds_toArray, List.set_cons_zero, List.set_cons_succ]
    exact RelO.nil
  intro val w5 gW hF
  obtain ⟨h0, h1, h2, h3, h4, h5, h6, h7, h8, h9, h10, h11, h12, h13, h14, h15, h16, h17, h18, h19, h20, h21, h22, h23, h24, h25, h26, h27, h28, h29, h30, h31, h32, h33, h34, h35, h36, h37, h38, h39, h40, h41, h42, h43, h44, h45, h46, _⟩ := hF
  have e0 : val 0 = .bool true := h0 _ (Frm.refl _ w5)
  have e1 : val 1 = .bool false := h1 _ (Frm.refl _ w5)
  have e2 : val 2 = .bool false := h2 _ (Frm.refl _ w5)
  have e3 : val 3 = rg (fC 1 2 0) v44 := h3 _ (Frm.refl _ w5)
  have e4 : val 4 = .agg (vv (fC 1 2 0)) := h4 _ (Frm.refl _ w5)
  have e5 : val 5 = .agg #[.int .u8 1, .int .u32 2, .string (bs [98])] := h5 _ (Frm.refl _ w5)
  have q6 : ∃ x, (val 6) = x ∧ SL w5 x [sB] := h6 _ (Frm.refl _ w5)
  obtain ⟨x68, e6, o68⟩ := q6
  have e7 : val 7 = .bool true := h7 _ (Frm.refl _ w5)
  have e8 : val 8 = .bool false := h8 _ (Frm.refl _ w5)
  have e9 : val 9 = .bool false := h9 _ (Frm.refl _ w5)
  have e10 : val 10 = .bool false := h10 _ (Frm.refl _ w5)
  have e11 : val 11 = .agg (dv 1 2) := h11 _ (Frm.refl _ w5)
  have e12 : val 12 = .agg (dv 1 2) := h12 _ (Frm.refl _ w5)
  have e13 : val 13 = .bool false := h13 _ (Frm.refl _ w5)
  have e14 : val 14 = .bool false := h14 _ (Frm.refl _ w5)
  have e15 : val 15 = .bool false := h15 _ (Frm.refl _ w5)
  have e16 : val 16 = .int .i64 0 := h16 _ (Frm.refl _ w5)
  have e17 : val 17 = .bool false := h17 _ (Frm.refl _ w5)
  have e18 : val 18 = .bool false := h18 _ (Frm.refl _ w5)
  have e19 : val 19 = .bool false := h19 _ (Frm.refl _ w5)
  have e20 : val 20 = rg (fC 1 2 0) v50 := h20 _ (Frm.refl _ w5)
  have e21 : val 21 = .agg (vv (fC 1 2 0)) := h21 _ (Frm.refl _ w5)
  have e22 : val 22 = .agg #[.int .u8 0, .int .u32 1, .string (bs [97])] := h22 _ (Frm.refl _ w5)
  have e23 : val 23 = .agg #[.int .u8 1, .int .u32 2, .string (bs [98])] := h23 _ (Frm.refl _ w5)
  have q24 : ∃ x, (val 24) = x ∧ SL w5 x [sA, sB] := h24 _ (Frm.refl _ w5)
  obtain ⟨x86, e24, o86⟩ := q24
  have e25 : val 25 = .bool true := h25 _ (Frm.refl _ w5)
  have e26 : val 26 = .bool false := h26 _ (Frm.refl _ w5)
  have e27 : val 27 = .bool false := h27 _ (Frm.refl _ w5)
  have e28 : val 28 = .bool false := h28 _ (Frm.refl _ w5)
  have e29 : val 29 = .int .i64 0 := h29 _ (Frm.refl _ w5)
  have e30 : val 30 = .bool false := h30 _ (Frm.refl _ w5)
  have e31 : val 31 = .bool false := h31 _ (Frm.refl _ w5)
  have e32 : val 32 = .bool false := h32 _ (Frm.refl _ w5)
  have e33 : val 33 = rg (fC 1 2 0) v58 := h33 _ (Frm.refl _ w5)
  have e34 : val 34 = .agg (vv (fC 1 2 0)) := h34 _ (Frm.refl _ w5)
  have e35 : val 35 = .bool true := h35 _ (Frm.refl _ w5)
  have e36 : val 36 = .bool false := h36 _ (Frm.refl _ w5)
  have e37 : val 37 = .bool false := h37 _ (Frm.refl _ w5)
  have e38 : val 38 = .bool false := h38 _ (Frm.refl _ w5)
  have e39 : val 39 = .agg (dv 1 2) := h39 _ (Frm.refl _ w5)
  have e40 : val 40 = .agg (dv 1 2) := h40 _ (Frm.refl _ w5)
  have e41 : val 41 = .bool false := h41 _ (Frm.refl _ w5)
  have e42 : val 42 = .bool false := h42 _ (Frm.refl _ w5)
  have e43 : val 43 = .bool false := h43 _ (Frm.refl _ w5)
  have e44 : val 44 = .int .i64 0 := h44 _ (Frm.refl _ w5)
  have e45 : val 45 = .bool false := h45 _ (Frm.refl _ w5)
  have e46 : val 46 = .bool false := h46 _ (Frm.refl _ w5)
  clear h0 h1 h2 h3 h4 h5 h6 h7 h8 h9 h10 h11 h12 h13 h14 h15 h16 h17 h18 h19 h20 h21 h22 h23 h24 h25 h26 h27 h28 h29 h30 h31 h32 h33 h34 h35 h36 h37 h38 h39 h40 h41 h42 h43 h44 h45 h46
  simp only [aO, Act.put, List.setIfInBounds_toArray, List.set_cons_zero, List.set_cons_succ, Nat.reduceAdd]
  try simp only [e46]
  try simp only [e45]
  try simp only [e44]
  try simp only [e43]
  try simp only [e42]
  try simp only [e41]
  try simp only [e40]
  try simp only [e39]
  try simp only [e38]
  try simp only [e37]
  try simp only [e36]
  try simp only [e35]
  try simp only [e34]
  try simp only [e33]
  try simp only [e32]
  try simp only [e31]
  try simp only [e30]
  try simp only [e29]
  try simp only [e28]
  try simp only [e27]
  try simp only [e26]
  try simp only [e25]
  try simp only [e24]
  try simp only [e23]
  try simp only [e22]
  try simp only [e21]
  try simp only [e20]
  try simp only [e19]
  try simp only [e18]
  try simp only [e17]
  try simp only [e16]
  try simp only [e15]
  try simp only [e14]
  try simp only [e13]
  try simp only [e12]
  try simp only [e11]
  try simp only [e10]
  try simp only [e9]
  try simp only [e8]
  try simp only [e7]
  try simp only [e6]
  try simp only [e5]
  try simp only [e4]
  try simp only [e3]
  try simp only [e2]
  try simp only [e1]
  try simp only [e0]
  try simp only [tupAt]
  refine wpTail.doneN ?_
  refine hK _ _ ?_
  have g5 := D.trans gW
  replace H1 := Hid.grow H1 g5
  replace H2 := Hid.grow H2 g5
  replace H3 := Hid.grow H3 g5
  replace H5 := Hid.grow H5 g5
  replace H6 := Hid.grow H6 g5
  replace H8 := Hid.grow H8 g5
  replace H9 := Hid.grow H9 g5
  replace GG := GG.trans g5
  clear gW D HN HE hK e0 e1 e2 e3 e4 e5 e6 e7 e8 e9 e10 e11 e12 e13 e14 e15 e16 e17 e18 e19 e20 e21 e22 e23 e24 e25 e26 e27 e28 e29 e30 e31 e32 e33 e34 e35 e36 e37 e38 e39 e40 e41 e42 e43 e44 e45 e46 o68 o86
  go_upto_region 7 with fail
  rename_i hK
  obtain ⟨N, hN⟩ : ∃ N, w5.heap.size = N := ⟨_, rfl⟩
  have HN : Hid (∀ W, Frm (fun _ => False) w5 W → N ≤ W.heap.size) := Lib.hid fun W g => hN ▸ g.size
  have HE : Hid (w5.heap.size ≤ N) := Lib.hid (Nat.le_of_eq hN)
  have D : Frm (fun _ => False) w5 w5.drew := (Frm.refl _ _).drew
  clear hN
  refine wp_region_late 10 3 [6, 7] [[], [], [1], [0, 2], [3], [3, 4], [3, 4], [3, 4], [], []] kn7M (kn7R vx N) (by kernel_rfl) rfl rfl rfl (by kernel_rfl) (by kernel_rfl) (by kernel_rfl) (by kernel_rfl) rfl (by kernel_rfl) (by kernel_rfl) (by kernel_rfl) (by kernel_rfl) (fun val => ?_) ?_
  · try simp only [Act.put, List.setIfInBounds_toArray, List.set_cons_zero, List.set_cons_succ]
    refine RelO.next (k' := 1) rfl (fun W gW hF => ?_) ?_
    focus
      exact OpOK.load (by rfl) _ rfl (by rfl) (load_reg (H1.out W (D.trans gW)).1) (fun W' _ => rfl)
    try simp only [Act.put, List.setIfInBounds_toArray, List.set_cons_zero, List.set_cons_succ]
    refine RelO.next (k' := 2) rfl (fun W gW hF => ?_) ?_
    focus
      refine OpOK.call (by rfl) ?_ ((dot_any 0 1 W).mono ?_)
      · first | (go_simp; done) | (go_simp; with_reducible rfl) | (go_simp; rfl)
      · rintro e W1 ⟨he, g1⟩
        subst he
        exact ⟨_, rfl, g1, fun W2 _ => rfl⟩
    try simp only [Act.put, List.setIfInBounds_toArray, List.set_cons_zero, List.set_cons_succ]
    refine RelO.next (k' := 3) rfl (fun W gW hF => ?_) ?_
    focus
      obtain ⟨h1, _⟩ := hF
      have e1 : val 1 = .agg (dv 0 1) := h1 _ (Frm.refl _ W)
      try simp only [e1]
      try simp only [tupAt]
      refine OpOK.made (W' := W.alloc (.cells #[.int .u8 0, .int .u32 1] 27)) (u := .slice (some ⟨W.heap.size, 0, none⟩) 1 1) (by rfl) ?_ ((Frm.refl _ W).alloc _) (fun W2 g2 => ⟨_, rfl, (DL.one W dA).keepF g2⟩)
      first | (go_simp; done) | (go_simp; with_reducible rfl) | (go_simp; rfl)
    try simp only [Act.put, List.setIfInBounds_toArray, List.set_cons_zero, List.set_cons_succ]
    refine RelO.next (k' := 4) rfl (fun W gW hF => ?_) ?_
    focus
      obtain ⟨h0, h2, _⟩ := hF
      have e0 : val 0 = rg (f1) vx := h0 _ (Frm.refl _ W)
      have q2 : ∃ x, (val 2) = x ∧ DL W x [dA] := h2 _ (Frm.refl _ W)
      obtain ⟨x112, e2, o112⟩ := q2
      try simp only [e2]
      try simp only [e0]
      try simp only [tupAt]
      refine OpOK.call (by rfl) ?_ ((kw_k vx x112 W (H1.out W (D.trans gW)).2 o112).mono ?_)
      · first | (go_simp; done) | (go_simp; with_reducible rfl) | (go_simp; rfl)
      · rintro e W1 ⟨v', rfl, o', _, g'⟩
        exact ⟨_, rfl, g', fun W2 g2 => ⟨v', rfl, o'.keep g2 (fun _ _ h => h)⟩⟩
    try simp only [Act.put, List.setIfInBounds_toArray, List.set_cons_zero, List.set_cons_succ]
    refine RelO.next (k' := 5) rfl (fun W gW hF => ?_) ?_
    focus
      obtain ⟨h3, _⟩ := hF
      have q3 : ∃ v', (val 3) = .tuple #[rg (fC 1 0 2) v', .agg (dv 2 2), .int .i64 0] ∧ OwnL W v' [sC] := h3 _ (Frm.refl _ W)
      obtain ⟨v113, e3, o113⟩ := q3
      try simp only [e3]
      try simp only [tupAt]
      refine OpOK.val (u := (val 3)) (by rfl) ?_ (fun W' _ => rfl)
      try simp only [e3]
      try simp only [tupAt]
      first | (go_simp; done) | (go_simp; with_reducible rfl) | (go_simp; rfl)
    try simp only [Act.put, List.setIfInBounds_toArray, List.set_cons_zero, List.set_cons_succ]
    refine RelO.next (k' := 6) rfl (fun W gW hF => ?_) ?_
    focus
      obtain ⟨h3, h4, _⟩ := hF
      have q3 : ∃ v', (val 3) = .tuple #[rg (fC 1 0 2) v', .agg (dv 2 2), .int .i64 0] ∧ OwnL W v' [sC] := h3 _ (Frm.refl _ W)
      obtain ⟨v113, e3, o113⟩ := q3
      have e4 : val 4 = (val 3) := h4 _ (Frm.refl _ W)
      try simp only [e4]
      try simp only [e3]
      try simp only [tupAt]
      refine OpOK.val (u := tupAt (val 4) 0) (by rfl) ?_ (fun W' _ => rfl)
      try simp only [e4]
      try simp only [e3]
      try simp only [tupAt]
      first | (go_simp; done) | (go_simp; with_reducible rfl) | (go_simp; rfl)
    try simp only [Act.put, List.setIfInBounds_toArray, List.set_cons_zero, List.set_cons_succ]
    refine RelO.next (k' := 7) rfl (fun W gW hF => ?_) ?_
    focus
      obtain ⟨h3, h4, _⟩ := hF
      have q3 : ∃ v', (val 3) = .tuple #[rg (fC 1 0 2) v', .agg (dv 2 2), .int .i64 0] ∧ OwnL W v' [sC] := h3 _ (Frm.refl _ W)
      obtain ⟨v113, e3, o113⟩ := q3
      have e4 : val 4 = (val 3) := h4 _ (Frm.refl _ W)
      try simp only [e4]
      try simp only [e3]
      try simp only [tupAt]
      refine OpOK.val (u := tupAt (val 4) 1) (by rfl) ?_ (fun W' _ => rfl)
      try simp only [e4]
      try simp only [e3]
      try simp only [tupAt]
      first | (go_simp; done) | (go_simp; with_reducible rfl) | (go_simp; rfl)
    try simp only [Act.put, List.setIfInBounds_toArray, List.set_cons_zero, List.set_cons_succ]
    refine RelO.next (k' := 8) rfl (fun W gW hF => ?_) ?_
    focus
      obtain ⟨h3, h4, _⟩ := hF
      have q3 : ∃ v', (val 3) = .tuple #[rg (fC 1 0 2) v', .agg (dv 2 2), .int .i64 0] ∧ OwnL W v' [sC] := h3 _ (Frm.refl _ W)
      obtain ⟨v113, e3, o113⟩ := q3
      have e4 : val 4 = (val 3) := h4 _ (Frm.refl _ W)
      try simp only [e4]
      try simp only [e3]
      try simp only [tupAt]
      refine OpOK.val (u := tupAt (val 4) 2) (by rfl) ?_ (fun W' _ => rfl)
      try simp only [e4]
      try simp only [e3]
      try simp only [tupAt]
      first | (go_simp; done) | (go_simp; with_reducible rfl) | (go_simp; rfl)
    try simp only [Act.put, List.setIfInBounds_toArray, List.set_cons_zero, List.set_cons_succ]
    refine RelO.next (k' := 9) rfl (fun W gW hF => ?_) ?_
    focus
      have hlt := HN.out W (D.trans gW)
      refine OpOK.made (W' := W.alloc (.cells rz 39)) (u := .pointer (some ⟨W.heap.size, 0, none⟩)) (by rfl) ?_ ((Frm.refl _ W).alloc _) (fun W2 g2 => ⟨W.heap.size, rfl, hlt, (Blk.alloc W _ _).keep g2 (fun h => h)⟩)
      first | (go_simp; done) | (go_simp; with_reducible rfl) | (go_simp; rfl)
    try simp only [Act.put, List.setIfInBounds_toArray, List.set_cons_zero, List.set_cons_succ]
    refine RelO.next (k' := 10) rfl (fun W gW hF => ?_) ?_
    focus
      have hlt := HN.out W (D.trans gW)
      refine OpOK.made (W' := W.alloc (.cells dz 27)) (u := .pointer (some ⟨W.heap.size, 0, none⟩)) (by rfl) ?_ ((Frm.refl _ W).alloc _) (fun W2 g2 => ⟨W.heap.size, rfl, hlt, (Blk.alloc W _ _).keep g2 (fun h => h)⟩)
      first | (go_simp; done) | (go_simp; with_reducible rfl) | (go_simp; rfl)
    try simp only [Act.put, List.setIfInBounds_toArray, List.set_cons_zero, List.set_cons_succ]
    exact RelO.nil
  intro val W gW hF
  obtain ⟨h0, h1, h2, h3, h4, h5, h6, h7, h8, h9, _⟩ := hF
  have e0 : val 0 = rg (f1) vx := h0 _ (Frm.refl _ W)
  have e1 : val 1 = .agg (dv 0 1) := h1 _ (Frm.refl _ W)
  have q2 : ∃ x, (val 2) = x ∧ DL W x [dA] := h2 _ (Frm.refl _ W)
  obtain ⟨x112, e2, o112⟩ := q2
  have q3 : ∃ v', (val 3) = .tuple #[rg (fC 1 0 2) v', .agg (dv 2 2), .int .i64 0] ∧ OwnL W v' [sC] := h3 _ (Frm.refl _ W)
  obtain ⟨v113, e3, o113⟩ := q3
  have e4 : val 4 = (val 3) := h4 _ (Frm.refl _ W)
  have e5 : val 5 = tupAt (val 4) 0 := h5 _ (Frm.refl _ W)
  have e6 : val 6 = tupAt (val 4) 1 := h6 _ (Frm.refl _ W)
  have e7 : val 7 = tupAt (val 4) 2 := h7 _ (Frm.refl _ W)
  have q8 : ∃ b, (val 8) = .pointer (some ⟨b, 0, none⟩) ∧ N ≤ b ∧ Blk W b 39 rz := h8 _ (Frm.refl _ W)
  obtain ⟨B11, e8, hB11, bB11⟩ := q8
  have q9 : ∃ b, (val 9) = .pointer (some ⟨b, 0, none⟩) ∧ N ≤ b ∧ Blk W b 27 dz := h9 _ (Frm.refl _ W)
  obtain ⟨B12, e9, hB12, bB12⟩ := q9
  clear h0 h1 h2 h3 h4 h5 h6 h7 h8 h9
  simp only [aO, Act.put, List.setIfInBounds_toArray, List.set_cons_zero, List.set_cons_succ, Nat.reduceAdd]
  try simp only [e9]
  try simp only [e8]
  try simp only [e7]
  try simp only [e6]
  try simp only [e5]
  try simp only [e4]
  try simp only [e3]
  try simp only [e2]
  try simp only [e1]
  try simp only [e0]
  try simp only [tupAt]
  refine tail_reg3 (w := w5) (fC 1 0 2) v113 [sC] B11 B12 2 2 0 rfl rfl rfl rfl rfl rfl rfl rfl rfl rfl rfl rfl rfl rfl rfl rfl rfl (D.trans gW) (Nat.le_trans HE.out hB11) (Nat.le_trans HE.out hB12) o113 bB11 bB12 ?_
  intro w6 g6 H11 H12
  try simp only [Act.put, List.setIfInBounds_toArray, List.set_cons_zero, List.set_cons_succ]
  refine hK _ _ ?_
  replace H1 := Hid.grow H1 g6
  replace H2 := Hid.grow H2 g6
  replace H3 := Hid.grow H3 g6
  replace H5 := Hid.grow H5 g6
  replace H6 := Hid.grow H6 g6
  replace H8 := Hid.grow H8 g6
  replace H9 := Hid.grow H9 g6
  replace GG := GG.trans g6
  clear gW D HN HE hK e0 e1 e2 e3 e4 e5 e6 e7 e8 e9 o112 o113 hB11 bB11 hB12 bB12
  go_upto_region 8 with fail
  rename_i hK
  obtain ⟨N, hN⟩ : ∃ N, w6.heap.size = N := ⟨_, rfl⟩
  have HN : Hid (∀ W, Frm (fun _ => False) w6 W → N ≤ W.heap.size) := Lib.hid fun W g => hN ▸ g.size
  have HE : Hid (w6.heap.size ≤ N) := Lib.hid (Nat.le_of_eq hN)
  have D : Frm (fun _ => False) w6 w6 := Frm.refl _ _
  clear hN
  refine wp_region_textR 7 2 [[], [], [0, 1], [2], [2, 3], [2, 3], []] kn8M (kn8R v44 v113 N) rfl rfl rfl rfl (by kernel_rfl) (by kernel_rfl) (fun val => ?_) ?_
  · try simp only [Act.put, List.setIfInBounds_toArray, List.set_cons_zero, List.set_cons_succ]
    refine RelO.next (k' := 1) rfl (fun W gW hF => ?_) ?_
    focus
      exact OpOK.load (by rfl) _ rfl (by rfl) (load_reg (H2.out W (D.trans gW)).1) (fun W' _ => rfl)
    try simp only [Act.put, List.setIfInBounds_toArray, List.set_cons_zero, List.set_cons_succ]
    refine RelO.next (k' := 2) rfl (fun W gW hF => ?_) ?_
    focus
      exact OpOK.load (by rfl) _ rfl (by rfl) (load_reg (H11.out W (D.trans gW)).1) (fun W' _ => rfl)
    try simp only [Act.put, List.setIfInBounds_toArray, List.set_cons_zero, List.set_cons_succ]
    refine RelO.next (k' := 3) rfl (fun W gW hF => ?_) ?_
    focus
      obtain ⟨h0, h1, _⟩ := hF
      have e0 : val 0 = rg (fC 1 2 0) v44 := h0 _ (Frm.refl _ W)
      have e1 : val 1 = rg (fC 1 0 2) v113 := h1 _ (Frm.refl _ W)
      try simp only [e1]
      try simp only [e0]
      try simp only [tupAt]
      refine OpOK.call (by rfl) ?_ ((sjoin_any (fC 1 2 0) (fC 1 0 2) v44 v113 [sB] [sC] W (fC_fit (by decide) (by decide) (by decide)) (fC_fit (by decide) (by decide) (by decide)) (H2.out W (D.trans gW)).2 (H11.out W (D.trans gW)).2 (by decide) (by decide)).mono ?_)
      · first | (go_simp; done) | (go_simp; with_reducible rfl) | (go_simp; rfl)
      · rintro e W1 ⟨v', f', l', e0, rfl, o', _, g', hj⟩
        obtain ⟨rfl, rfl, rfl⟩ := join_m hj
        exact ⟨_, rfl, g', fun W2 g2 => ⟨v', rfl, o'.keep g2 (fun _ _ h => h)⟩⟩
    try simp only [Act.put, List.setIfInBounds_toArray, List.set_cons_zero, List.set_cons_succ]
    refine RelO.next (k' := 4) rfl (fun W gW hF => ?_) ?_
    focus
      obtain ⟨h2, _⟩ := hF
      have q2 : ∃ v', (val 2) = .tuple #[rg (fC 1 2 2) v', .int .i64 0] ∧ OwnL W v' [sB, sC] := h2 _ (Frm.refl _ W)
      obtain ⟨v120, e2, o120⟩ := q2
      try simp only [e2]
      try simp only [tupAt]
      refine OpOK.val (u := (val 2)) (by rfl) ?_ (fun W' _ => rfl)
      try simp only [e2]
      try simp only [tupAt]
      first | (go_simp; done) | (go_simp; with_reducible rfl) | (go_simp; rfl)
    try simp only [Act.put, List.setIfInBounds_toArray, List.set_cons_zero, List.set_cons_succ]
    refine RelO.next (k' := 5) rfl (fun W gW hF => ?_) ?_
    focus
      obtain ⟨h2, h3, _⟩ := hF
      have q2 : ∃ v', (val 2) = .tuple #[rg (fC 1 2 2) v', .int .i64 0] ∧ OwnL W v' [sB, sC] := h2 _ (Frm.refl _ W)
      obtain ⟨v120, e2, o120⟩ := q2
      have e3 : val 3 = (val 2) := h3 _ (Frm.refl _ W)
      try simp only [e3]
      try simp only [e2]
      try simp only [tupAt]
      refine OpOK.val (u := tupAt (val 3) 0) (by rfl) ?_ (fun W' _ => rfl)
      try simp only [e3]
      try simp only [e2]
      try simp only [tupAt]
      first | (go_simp; done) | (go_simp; with_reducible rfl) | (go_simp; rfl)
    try simp only [Act.put, List.setIfInBounds_toArray, List.set_cons_zero, List.set_cons_succ]
    refine RelO.next (k' := 6) rfl (fun W gW hF => ?_) ?_
    focus
      obtain ⟨h2, h3, _⟩ := hF
      have q2 : ∃ v', (val 2) = .tuple #[rg (fC 1 2 2) v', .int .i64 0] ∧ OwnL W v' [sB, sC] := h2 _ (Frm.refl _ W)
      obtain ⟨v120, e2, o120⟩ := q2
      have e3 : val 3 = (val 2) := h3 _ (Frm.refl _ W)
      try simp only [e3]
      try simp only [e2]
      try simp only [tupAt]
      refine OpOK.val (u := tupAt (val 3) 1) (by rfl) ?_ (fun W' _ => rfl)
      try simp only [e3]
      try simp only [e2]
      try simp only [tupAt]
      first | (go_simp; done) | (go_simp; with_reducible rfl) | (go_simp; rfl)
    try simp only [Act.put, List.setIfInBounds_toArray, List.set_cons_zero, List.set_cons_succ]
    refine RelO.next (k' := 7) rfl (fun W gW hF => ?_) ?_
    focus
      have hlt := HN.out W (D.trans gW)
      refine OpOK.made (W' := W.alloc (.cells rz 39)) (u := .pointer (some ⟨W.heap.size, 0, none⟩)) (by rfl) ?_ ((Frm.refl _ W).alloc _) (fun W2 g2 => ⟨W.heap.size, rfl, hlt, (Blk.alloc W _ _).keep g2 (fun h => h)⟩)
      first | (go_simp; done) | (go_simp; with_reducible rfl) | (go_simp; rfl)
    try simp only [Act.put, List.setIfInBounds_toArray, List.set_cons_zero, List.set_cons_succ]
    exact RelO.nil
  intro val W gW hF
  obtain ⟨h0, h1, h2, h3, h4, h5, h6, _⟩ := hF
  have e0 : val 0 = rg (fC 1 2 0) v44 := h0 _ (Frm.refl _ W)
  have e1 : val 1 = rg (fC 1 0 2) v113 := h1 _ (Frm.refl _ W)
  have q2 : ∃ v', (val 2) = .tuple #[rg (fC 1 2 2) v', .int .i64 0] ∧ OwnL W v' [sB, sC] := h2 _ (Frm.refl _ W)
  obtain ⟨v120, e2, o120⟩ := q2
  have e3 : val 3 = (val 2) := h3 _ (Frm.refl _ W)
  have e4 : val 4 = tupAt (val 3) 0 := h4 _ (Frm.refl _ W)
  have e5 : val 5 = tupAt (val 3) 1 := h5 _ (Frm.refl _ W)
  have q6 : ∃ b, (val 6) = .pointer (some ⟨b, 0, none⟩) ∧ N ≤ b ∧ Blk W b 39 rz := h6 _ (Frm.refl _ W)
  obtain ⟨B14, e6, hB14, bB14⟩ := q6
  clear h0 h1 h2 h3 h4 h5 h6
  simp only [aO, Act.put, List.setIfInBounds_toArray, List.set_cons_zero, List.set_cons_succ, Nat.reduceAdd]
  try simp only [e6]
  try simp only [e5]
  try simp only [e4]
  try simp only [e3]
  try simp only [e2]
  try simp only [e1]
  try simp only [e0]
  try simp only [tupAt]
  refine tail_reg1 (w := w6) (fC 1 2 2) v120 [sB, sC] B14 0 rfl rfl rfl rfl rfl rfl rfl rfl rfl rfl rfl (D.trans gW) (Nat.le_trans HE.out hB14) o120 bB14 ?_
  intro w7 g7 H14
  try simp only [Act.put, List.setIfInBounds_toArray, List.set_cons_zero, List.set_cons_succ]
  refine hK _ _ ?_
  replace H1 := Hid.grow H1 g7
  replace H2 := Hid.grow H2 g7
  replace H3 := Hid.grow H3 g7
  replace H5 := Hid.grow H5 g7
  replace H6 := Hid.grow H6 g7
  replace H8 := Hid.grow H8 g7
  replace H9 := Hid.grow H9 g7
  replace H11 := Hid.grow H11 g7
  replace H12 := Hid.grow H12 g7
  replace GG := GG.trans g7
  clear gW D HN HE hK e0 e1 e2 e3 e4 e5 e6 o120 hB14 bB14
  go_upto_region 9 with fail
  rename_i hK
  obtain ⟨N, hN⟩ : ∃ N, w7.heap.size = N := ⟨_, rfl⟩
  have HN : Hid (∀ W, Frm (fun _ => False) w7 W → N ≤ W.heap.size) := Lib.hid fun W g => hN ▸ g.size
  have HE : Hid (w7.heap.size ≤ N) := Lib.hid (Nat.le_of_eq hN)
  have D : Frm (fun _ => False) w7 w7 := Frm.refl _ _
  clear hN
  refine wp_region_textR 7 2 [[], [], [0, 1], [2], [2, 3], [2, 3], []] kn9M (kn9R vx v58 N) rfl rfl rfl rfl (by kernel_rfl) (by kernel_rfl) (fun val => ?_) ?_
  · try simp only [Act.put, List.setIfInBounds_toArray, List.set_cons_zero, List.set_cons_succ]
    refine RelO.next (k' := 1) rfl (fun W gW hF => ?_) ?_
    focus
      exact OpOK.load (by rfl) _ rfl (by rfl) (load_reg (H1.out W (D.trans gW)).1) (fun W' _ => rfl)
    try simp only [Act.put, List.setIfInBounds_toArray, List.set_cons_zero, List.set_cons_succ]
    refine RelO.next (k' := 2) rfl (fun W gW hF => ?_) ?_
    focus
      exact OpOK.load (by rfl) _ rfl (by rfl) (load_reg (H8.out W (D.trans gW)).1) (fun W' _ => rfl)
    try simp only [Act.put, List.setIfInBounds_toArray, List.set_cons_zero, List.set_cons_succ]
    refine RelO.next (k' := 3) rfl (fun W gW hF => ?_) ?_
    focus
      obtain ⟨h0, h1, _⟩ := hF
      have e0 : val 0 = rg (f1) vx := h0 _ (Frm.refl _ W)
      have e1 : val 1 = rg (fC 1 2 0) v58 := h1 _ (Frm.refl _ W)
      try simp only [e1]
      try simp only [e0]
      try simp only [tupAt]
      refine OpOK.call (by rfl) ?_ ((sjoin_any f1 (fC 1 2 0) vx v58 [sA] [] W f1_fit (fC_fit (by decide) (by decide) (by decide)) (H1.out W (D.trans gW)).2 (H8.out W (D.trans gW)).2 (by decide) (by decide)).mono ?_)
      · first | (go_simp; done) | (go_simp; with_reducible rfl) | (go_simp; rfl)
      · rintro e W1 ⟨v', f', l', e0, rfl, o', _, g', hj⟩
        obtain ⟨rfl, rfl, rfl⟩ := join_n hj
        exact ⟨_, rfl, g', fun W2 g2 => ⟨v', rfl, o'.keep g2 (fun _ _ h => h)⟩⟩
    try simp only [Act.put, List.setIfInBounds_toArray, List.set_cons_zero, List.set_cons_succ]
    refine RelO.next (k' := 4) rfl (fun W gW hF => ?_) ?_
    focus
      obtain ⟨h2, _⟩ := hF
      have q2 : ∃ v', (val 2) = .tuple #[rg (fC 1 2 0) v', .int .i64 0] ∧ OwnL W v' [] := h2 _ (Frm.refl _ W)
      obtain ⟨v126, e2, o126⟩ := q2
      try simp only [e2]
      try simp only [tupAt]
      refine OpOK.val (u := (val 2)) (by rfl) ?_ (fun W' _ => rfl)
      try simp only [e2]
      try simp only [tupAt]
      first | (go_simp; done) | (go_simp; with_reducible rfl) | (go_simp; rfl)
    try simp only [Act.put, List.setIfInBounds_toArray, List.set_cons_zero, List.set_cons_succ]
    refine RelO.next (k' := 5) rfl (fun W gW hF => ?_) ?_
    focus
      obtain ⟨h2, h3, _⟩ := hF
      have q2 : ∃ v', (val 2) = .tuple #[rg (fC 1 2 0) v', .int .i64 0] ∧ OwnL W v' [] := h2 _ (Frm.refl _ W)
      obtain ⟨v126, e2, o126⟩ := q2
      have e3 : val 3 = (val 2) := h3 _ (Frm.refl _ W)
      try simp only [e3]
      try simp only [e2]
      try simp only [tupAt]
      refine OpOK.val (u := tupAt (val 3) 0) (by rfl) ?_ (fun W' _ => rfl)
      try simp only [e3]
      try simp only [e2]
      try simp only [tupAt]
      first | (go_simp; done) | (go_simp; with_reducible rfl) | (go_simp; rfl)
    try simp only [Act.put, List.setIfInBounds_toArray, List.set_cons_zero, List.set_cons_succ]
    refine RelO.next (k' := 6) rfl (fun W gW hF => ?_) ?_
    focus
      obtain ⟨h2, h3, _⟩ := hF
      have q2 : ∃ v', (val 2) = .tuple #[rg (fC 1 2 0) v', .int .i64 0] ∧ OwnL W v' [] := h2 _ (Frm.refl _ W)
      obtain ⟨v126, e2, o126⟩ := q2
      have e3 : val 3 = (val 2) := h3 _ (Frm.refl _ W)
      try simp only [e3]
      try simp only [e2]
      try simp only [tupAt]
      refine OpOK.val (u := tupAt (val 3) 1) (by rfl) ?_ (fun W' _ => rfl)
      try simp only [e3]
      try simp only [e2]
      try simp only [tupAt]
      first | (go_simp; done) | (go_simp; with_reducible rfl) | (go_simp; rfl)
    try simp only [Act.put, List.setIfInBounds_toArray, List.set_cons_zero, List.set_cons_succ]
    refine RelO.next (k' := 7) rfl (fun W gW hF => ?_) ?_
    focus
      have hlt := HN.out W (D.trans gW)
      refine OpOK.made (W' := W.alloc (.cells rz 39)) (u := .pointer (some ⟨W.heap.size, 0, none⟩)) (by rfl) ?_ ((Frm.refl _ W).alloc _) (fun W2 g2 => ⟨W.heap.size, rfl, hlt, (Blk.alloc W _ _).keep g2 (fun h => h)⟩)
      first | (go_simp; done) | (go_simp; with_reducible rfl) | (go_simp; rfl)
    try simp only [Act.put, List.setIfInBounds_toArray, List.set_cons_zero, List.set_cons_succ]
    exact RelO.nil
  intro val W gW hF
  obtain ⟨h0, h1, h2, h3, h4, h5, h6, _⟩ := hF
  have e0 : val 0 = rg (f1) vx := h0 _ (Frm.refl _ W)
  have e1 : val 1 = rg (fC 1 2 0) v58 := h1 _ (Frm.refl _ W)
  have q2 : ∃ v', (val 2) = .tuple #[rg (fC 1 2 0) v', .int .i64 0] ∧ OwnL W v' [] := h2 _ (Frm.refl _ W)
  obtain ⟨v126, e2, o126⟩ := q2
  have e3 : val 3 = (val 2) := h3 _ (Frm.refl _ W)
  have e4 : val 4 = tupAt (val 3) 0 := h4 _ (Frm.refl _ W)
  have e5 : val 5 = tupAt (val 3) 1 := h5 _ (Frm.refl _ W)
  have q6 : ∃ b, (val 6) = .pointer (some ⟨b, 0, none⟩) ∧ N ≤ b ∧ Blk W b 39 rz := h6 _ (Frm.refl _ W)
  obtain ⟨B16, e6, hB16, bB16⟩ := q6
  clear h0 h1 h2 h3 h4 h5 h6
  simp only [aO, Act.put, List.setIfInBounds_toArray, List.set_cons_zero, List.set_cons_succ, Nat.reduceAdd]
  try simp only [e6]
  try simp only [e5]
  try simp only [e4]
  try simp only [e3]
  try simp only [e2]
  try simp only [e1]
  try simp only [e0]
  try simp only [tupAt]
  refine tail_reg1 (w := w7) (fC 1 2 0) v126 [] B16 0 rfl rfl rfl rfl rfl rfl rfl rfl rfl rfl rfl (D.trans gW) (Nat.le_trans HE.out hB16) o126 bB16 ?_
  intro w8 g8 H16
  try simp only [Act.put, List.setIfInBounds_toArray, List.set_cons_zero, List.set_cons_succ]
  refine hK _ _ ?_
  replace H1 := Hid.grow H1 g8
  replace H2 := Hid.grow H2 g8
  replace H3 := Hid.grow H3 g8
  replace H5 := Hid.grow H5 g8
  replace H6 := Hid.grow H6 g8
  replace H8 := Hid.grow H8 g8
  replace H9 := Hid.grow H9 g8
  replace H11 := Hid.grow H11 g8
  replace H12 := Hid.grow H12 g8
  replace H14 := Hid.grow H14 g8
  replace GG := GG.trans g8
  clear gW D HN HE hK e0 e1 e2 e3 e4 e5 e6 o126 hB16 bB16
  go_upto_region 10 with fail
  rename_i hK
  obtain ⟨N, hN⟩ : ∃ N, w8.heap.size = N := ⟨_, rfl⟩
  have HN : Hid (∀ W, Frm (fun _ => False) w8 W → N ≤ W.heap.size) := Lib.hid fun W g => hN ▸ g.size
  have HE : Hid (w8.heap.size ≤ N) := Lib.hid (Nat.le_of_eq hN)
  have D : Frm (fun _ => False) w8 w8.drew := (Frm.refl _ _).drew
  clear hN
  refine wp_region_late 44 0 [] [[], [0], [1], [2], [2], [2], [2], [2, 5, 6], [2, 3, 4, 7], [2, 8], [2, 9], [10], [11], [11, 12], [11, 13], [14], [15], [15], [15, 16, 17], [15, 18], [15, 19], [20], [21], [21, 22], [21, 23], [24], [25], [25], [25, 26, 27], [25, 28], [29], [30], [30], [30, 31, 32], [30, 33], [30, 34], [30, 35], [36], [37], [37], [37, 38, 39], [37, 40], [37, 41], [37, 42]] kn10M (kn10R vx v44 v50 v120 v126) (by kernel_rfl) rfl rfl rfl (by kernel_rfl) (by kernel_rfl) (by kernel_rfl) (by kernel_rfl) rfl (by kernel_rfl) (by kernel_rfl) (by kernel_rfl) (by kernel_rfl) (fun val => ?_) ?_
  · try dsimp only
    refine RelO.next (k' := 1) rfl (fun W gW hF => ?_) ?_
    focus
      refine OpOK.val (u := .int .i64 0) (by rfl) ?_ (fun W' _ => rfl)
      try simp only [tupAt]
      first | (go_simp; done) | (go_simp; with_reducible rfl) | (go_simp; rfl)
    try simp only [Act.put, List.setIfInBounds_toArray, List.set_cons_zero, List.set_cons_succ]
    refine RelO.next (k' := 2) rfl (fun W gW hF => ?_) ?_
    focus
      obtain ⟨h0, _⟩ := hF
      have e0 : val 0 = .int .i64 0 := h0 _ (Frm.refl _ W)
      try simp only [e0]
      try simp only [tupAt]
      refine OpOK.val (u := .bool false) (by rfl) ?_ (fun W' _ => rfl)
      try simp only [e0]
      try simp only [tupAt]
      first | (go_simp; done) | (go_simp; with_reducible rfl) | (go_simp; rfl)
    try simp only [Act.put, List.setIfInBounds_toArray, List.set_cons_zero, List.set_cons_succ]
    refine RelO.next (k' := 3) rfl (fun W gW hF => ?_) ?_
    focus
      obtain ⟨h1, _⟩ := hF
      have e1 : val 1 = .bool false := h1 _ (Frm.refl _ W)
      try simp only [e1]
      try simp only [tupAt]
      refine OpOK.val (u := .bool false) (by rfl) ?_ (fun W' _ => rfl)
      try simp only [e1]
      try simp only [tupAt]
      first | (go_simp; done) | (go_simp; with_reducible rfl) | (go_simp; rfl)
    try simp only [Act.put, List.setIfInBounds_toArray, List.set_cons_zero, List.set_cons_succ]
    refine RelO.next (k' := 4) rfl (fun W gW hF => ?_) ?_
    focus
      obtain ⟨h2, _⟩ := hF
      have e2 : val 2 = .bool false := h2 _ (Frm.refl _ W)
      try simp only [e2]
      try simp only [tupAt]
      exact OpOK.load (by rfl) _ rfl (by rfl) (load_reg (H14.out W (D.trans gW)).1) (fun W' _ => rfl)
    try simp only [Act.put, List.setIfInBounds_toArray, List.set_cons_zero, List.set_cons_succ]
    refine RelO.next (k' := 5) rfl (fun W gW hF => ?_) ?_
    focus
      obtain ⟨h2, _⟩ := hF
      have e2 : val 2 = .bool false := h2 _ (Frm.refl _ W)
      try simp only [e2]
      try simp only [tupAt]
      exact OpOK.val (u := .agg (vv (fC 1 2 2))) (by rfl) (by go_simp; first | rfl | simp [fC]) (fun W' _ => rfl)
    try simp only [Act.put, List.setIfInBounds_toArray, List.set_cons_zero, List.set_cons_succ]
    refine RelO.next (k' := 6) rfl (fun W gW hF => ?_) ?_
    focus
      obtain ⟨h2, _⟩ := hF
      have e2 : val 2 = .bool false := h2 _ (Frm.refl _ W)
      try simp only [e2]
      try simp only [tupAt]
      refine OpOK.call (by rfl) ?_ ((sib_any 1 2 [98] W).mono ?_)
      · first | (go_simp; done) | (go_simp; with_reducible rfl) | (go_simp; rfl)
      · rintro e W1 ⟨he, g1⟩
        subst he
        exact ⟨_, rfl, g1, fun W2 _ => rfl⟩
    try simp only [Act.put, List.setIfInBounds_toArray, List.set_cons_zero, List.set_cons_succ]
    refine RelO.next (k' := 7) rfl (fun W gW hF => ?_) ?_
    focus
      obtain ⟨h2, _⟩ := hF
      have e2 : val 2 = .bool false := h2 _ (Frm.refl _ W)
      try simp only [e2]
      try simp only [tupAt]
      refine OpOK.call (by rfl) ?_ ((sib_any 2 2 [99] W).mono ?_)
      · first | (go_simp; done) | (go_simp; with_reducible rfl) | (go_simp; rfl)
      · rintro e W1 ⟨he, g1⟩
        subst he
        exact ⟨_, rfl, g1, fun W2 _ => rfl⟩
    try simp only [Act.put, List.setIfInBounds_toArray, List.set_cons_zero, List.set_cons_succ]
    refine RelO.next (k' := 8) rfl (fun W gW hF => ?_) ?_
    focus
      obtain ⟨h2, h5, h6, _⟩ := hF
      have e2 : val 2 = .bool false := h2 _ (Frm.refl _ W)
      have e5 : val 5 = .agg #[.int .u8 1, .int .u32 2, .string (bs [98])] := h5 _ (Frm.refl _ W)
      have e6 : val 6 = .agg #[.int .u8 2, .int .u32 2, .string (bs [99])] := h6 _ (Frm.refl _ W)
      try simp only [e6]
      try simp only [e5]
      try simp only [e2]
      try simp only [tupAt]
      refine OpOK.made (W' := W.alloc (.cells #[.int .u8 1, .int .u32 2, .string (bs [98]), .int .u8 2, .int .u32 2, .string (bs [99])] 76)) (u := .slice (some ⟨W.heap.size, 0, none⟩) 2 2) (by rfl) ?_ ((Frm.refl _ W).alloc _) (fun W2 g2 => ⟨_, rfl, (SL.two W sB sC).keepF g2⟩)
      first | (go_simp; done) | (go_simp; with_reducible rfl) | (go_simp; rfl)
    try simp only [Act.put, List.setIfInBounds_toArray, List.set_cons_zero, List.set_cons_succ]
    refine RelO.next (k' := 9) rfl (fun W gW hF => ?_) ?_
    focus
      obtain ⟨h2, h3, h4, h7, _⟩ := hF
      have e2 : val 2 = .bool false := h2 _ (Frm.refl _ W)
      have e3 : val 3 = rg (fC 1 2 2) v120 := h3 _ (Frm.refl _ W)
      have e4 : val 4 = .agg (vv (fC 1 2 2)) := h4 _ (Frm.refl _ W)
      have q7 : ∃ x, (val 7) = x ∧ SL W x [sB, sC] := h7 _ (Frm.refl _ W)
      obtain ⟨x136, e7, o136⟩ := q7
      try simp only [e7]
      try simp only [e4]
      try simp only [e3]
      try simp only [e2]
      try simp only [tupAt]
      refine OpOK.call (by rfl) ?_ ((is_any (fC 1 2 2) (fC 1 2 2) v120 x136 [sB, sC] [sB, sC] W (H14.out W (D.trans gW)).2 o136).mono ?_)
      · first | (go_simp; done) | (go_simp; with_reducible rfl) | (go_simp; rfl)
      · rintro e W1 ⟨he, g1⟩
        rw [(by decide : (eq8 (fC 1 2 2) (fC 1 2 2) && decide (([sB, sC] : List SibI) = [sB, sC])) = true)] at he
        subst he
        exact ⟨_, rfl, g1, fun W2 _ => rfl⟩
    try simp only [Act.put, List.setIfInBounds_toArray, List.set_cons_zero, List.set_cons_succ]
    refine RelO.next (k' := 10) rfl (fun W gW hF => ?_) ?_
    focus
      obtain ⟨h2, h8, _⟩ := hF
      have e2 : val 2 = .bool false := h2 _ (Frm.refl _ W)
      have e8 : val 8 = .bool true := h8 _ (Frm.refl _ W)
      try simp only [e8]
      try simp only [e2]
      try simp only [tupAt]
      refine OpOK.val (u := .bool false) (by rfl) ?_ (fun W' _ => rfl)
      try simp only [e8]
      try simp only [e2]
      try simp only [tupAt]
      first | (go_simp; done) | (go_simp; with_reducible rfl) | (go_simp; rfl)
    try simp only [Act.put, List.setIfInBounds_toArray, List.set_cons_zero, List.set_cons_succ]
    refine RelO.next (k' := 11) rfl (fun W gW hF => ?_) ?_
    focus
      obtain ⟨h2, h9, _⟩ := hF
      have e2 : val 2 = .bool false := h2 _ (Frm.refl _ W)
      have e9 : val 9 = .bool false := h9 _ (Frm.refl _ W)
      try simp only [e9]
      try simp only [e2]
      try simp only [tupAt]
      refine OpOK.val (u := .bool false) (by rfl) ?_ (fun W' _ => rfl)
      try simp only [e9]
      try simp only [e2]
      try simp only [tupAt]
      first | (go_simp; done) | (go_simp; with_reducible rfl) | (go_simp; rfl)
    try simp only [Act.put, List.setIfInBounds_toArray, List.set_cons_zero, List.set_cons_succ]
    refine RelO.next (k' := 12) rfl (fun W gW hF => ?_) ?_
    focus
      obtain ⟨h10, _⟩ := hF
      have e10 : val 10 = .bool false := h10 _ (Frm.refl _ W)
      try simp only [e10]
      try simp only [tupAt]
      refine OpOK.val (u := .bool false) (by rfl) ?_ (fun W' _ => rfl)
      try simp only [e10]
      try simp only [tupAt]
      first | (go_simp; done) | (go_simp; with_reducible rfl) | (go_simp; rfl)
    try simp only [Act.put, List.setIfInBounds_toArray, List.set_cons_zero, List.set_cons_succ]
    refine RelO.next (k' := 13) rfl (fun W gW hF => ?_) ?_
    focus
      obtain ⟨h11, _⟩ := hF
      have e11 : val 11 = .bool false := h11 _ (Frm.refl _ W)
      try simp only [e11]
      try simp only [tupAt]
      refine OpOK.val (u := .int .i64 0) (by rfl) ?_ (fun W' _ => rfl)
      try simp only [e11]
      try simp only [tupAt]
      first | (go_simp; done) | (go_simp; with_reducible rfl) | (go_simp; rfl)
    try simp only [Act.put, List.setIfInBounds_toArray, List.set_cons_zero, List.set_cons_succ]
    refine RelO.next (k' := 14) rfl (fun W gW hF => ?_) ?_
    focus
      obtain ⟨h11, h12, _⟩ := hF
      have e11 : val 11 = .bool false := h11 _ (Frm.refl _ W)
      have e12 : val 12 = .int .i64 0 := h12 _ (Frm.refl _ W)
      try simp only [e12]
      try simp only [e11]
      try simp only [tupAt]
      refine OpOK.val (u := .bool false) (by rfl) ?_ (fun W' _ => rfl)
      try simp only [e12]
      try simp only [e11]
      try simp only [tupAt]
      first | (go_simp; done) | (go_simp; with_reducible rfl) | (go_simp; rfl)
    try simp only [Act.put, List.setIfInBounds_toArray, List.set_cons_zero, List.set_cons_succ]
    refine RelO.next (k' := 15) rfl (fun W gW hF => ?_) ?_
    focus
      obtain ⟨h11, h13, _⟩ := hF
      have e11 : val 11 = .bool false := h11 _ (Frm.refl _ W)
      have e13 : val 13 = .bool false := h13 _ (Frm.refl _ W)
      try simp only [e13]
      try simp only [e11]
      try simp only [tupAt]
      refine OpOK.val (u := .bool false) (by rfl) ?_ (fun W' _ => rfl)
      try simp only [e13]
      try simp only [e11]
      try simp only [tupAt]
      first | (go_simp; done) | (go_simp; with_reducible rfl) | (go_simp; rfl)
    try simp only [Act.put, List.setIfInBounds_toArray, List.set_cons_zero, List.set_cons_succ]
    refine RelO.next (k' := 16) rfl (fun W gW hF => ?_) ?_
    focus
      obtain ⟨h14, _⟩ := hF
      have e14 : val 14 = .bool false := h14 _ (Frm.refl _ W)
      try simp only [e14]
      try simp only [tupAt]
      refine OpOK.val (u := .bool false) (by rfl) ?_ (fun W' _ => rfl)
      try simp only [e14]
      try simp only [tupAt]
      first | (go_simp; done) | (go_simp; with_reducible rfl) | (go_simp; rfl)
    try simp only [Act.put, List.setIfInBounds_toArray, List.set_cons_zero, List.set_cons_succ]
    refine RelO.next (k' := 17) rfl (fun W gW hF => ?_) ?_
    focus
      obtain ⟨h15, _⟩ := hF
      have e15 : val 15 = .bool false := h15 _ (Frm.refl _ W)
      try simp only [e15]
      try simp only [tupAt]
      exact OpOK.load (by rfl) _ rfl (by rfl) (load_reg (H16.out W (D.trans gW)).1) (fun W' _ => rfl)
    try simp only [Act.put, List.setIfInBounds_toArray, List.set_cons_zero, List.set_cons_succ]
    refine RelO.next (k' := 18) rfl (fun W gW hF => ?_) ?_
    focus
      obtain ⟨h15, _⟩ := hF
      have e15 : val 15 = .bool false := h15 _ (Frm.refl _ W)
      try simp only [e15]
      try simp only [tupAt]
      exact OpOK.val (u := .agg (vv (fC 1 2 0))) (by rfl) (by go_simp; first | rfl | simp [fC]) (fun W' _ => rfl)
    try simp only [Act.put, List.setIfInBounds_toArray, List.set_cons_zero, List.set_cons_succ]
    refine RelO.next (k' := 19) rfl (fun W gW hF => ?_) ?_
    focus
      obtain ⟨h15, h16, h17, _⟩ := hF
      have e15 : val 15 = .bool false := h15 _ (Frm.refl _ W)
      have e16 : val 16 = rg (fC 1 2 0) v126 := h16 _ (Frm.refl _ W)
      have e17 : val 17 = .agg (vv (fC 1 2 0)) := h17 _ (Frm.refl _ W)
      try simp only [e17]
      try simp only [e16]
      try simp only [e15]
      try simp only [tupAt]
      refine OpOK.call (by rfl) ?_ ((is_any (fC 1 2 0) (fC 1 2 0) v126 (.slice none 0 0) [] [] W (H16.out W (D.trans gW)).2 (OwnL.nil_ W).sl).mono ?_)
      · first | (go_simp; done) | (go_simp; with_reducible rfl) | (go_simp; rfl)
      · rintro e W1 ⟨he, g1⟩
        rw [(by decide : (eq8 (fC 1 2 0) (fC 1 2 0) && decide (([] : List SibI) = [])) = true)] at he
        subst he
        exact ⟨_, rfl, g1, fun W2 _ => rfl⟩
    try simp only [Act.put, List.setIfInBounds_toArray, List.set_cons_zero, List.set_cons_succ]
    refine RelO.next (k' := 20) rfl (fun W gW hF => ?_) ?_
    focus
      obtain ⟨h15, h18, _⟩ := hF
      have e15 : val 15 = .bool false := h15 _ (Frm.refl _ W)
      have e18 : val 18 = .bool true := h18 _ (Frm.refl _ W)
      try simp only [e18]
      try simp only [e15]
      try simp only [tupAt]
      refine OpOK.val (u := .bool false) (by rfl) ?_ (fun W' _ => rfl)
      try simp only [e18]
      try simp only [e15]
      try simp only [tupAt]
      first | (go_simp; done) | (go_simp; with_reducible rfl) | (go_simp; rfl)
    try simp only [Act.put, List.setIfInBounds_toArray, List.set_cons_zero, List.set_cons_succ]
    refine RelO.next (k' := 21) rfl (fun W gW hF => ?_) ?_
    focus
      obtain ⟨h15, h19, _⟩ := hF
      have e15 : val 15 = .bool false := h15 _ (Frm.refl _ W)
      have e19 : val 19 = .bool false := h19 _ (Frm.refl _ W)
      try simp only [e19]
      try simp only [e15]
      try simp only [tupAt]
      refine OpOK.val (u := .bool false) (by rfl) ?_ (fun W' _ => rfl)
      try simp only [e19]
      try simp only [e15]
      try simp only [tupAt]
      first | (go_simp; done) | (go_simp; with_reducible rfl) | (go_simp; rfl)
    try simp only [Act.put, List.setIfInBounds_toArray, List.set_cons_zero, List.set_cons_succ]
    refine RelO.next (k' := 22) rfl (fun W gW hF => ?_) ?_
    focus
      obtain ⟨h20, _⟩ := hF
      have e20 : val 20 = .bool false := h20 _ (Frm.refl _ W)
      try simp only [e20]
      try simp only [tupAt]
      refine OpOK.val (u := .bool false) (by rfl) ?_ (fun W' _ => rfl)
      try simp only [e20]
      try simp only [tupAt]
      first | (go_simp; done) | (go_simp; with_reducible rfl) | (go_simp; rfl)
    try simp only [Act.put, List.setIfInBounds_toArray, List.set_cons_zero, List.set_cons_succ]
    refine RelO.next (k' := 23) rfl (fun W gW hF => ?_) ?_
    focus
      obtain ⟨h21, _⟩ := hF
      have e21 : val 21 = .bool false := h21 _ (Frm.refl _ W)
      try simp only [e21]
      try simp only [tupAt]
      refine OpOK.val (u := .int .i64 0) (by rfl) ?_ (fun W' _ => rfl)
      try simp only [e21]
      try simp only [tupAt]
      first | (go_simp; done) | (go_simp; with_reducible rfl) | (go_simp; rfl)
    try simp only [Act.put, List.setIfInBounds_toArray, List.set_cons_zero, List.set_cons_succ]
    refine RelO.next (k' := 24) rfl (fun W gW hF => ?_) ?_
    focus
      obtain ⟨h21, h22, _⟩ := hF
      have e21 : val 21 = .bool false := h21 _ (Frm.refl _ W)
      have e22 : val 22 = .int .i64 0 := h22 _ (Frm.refl _ W)
      try simp only [e22]
      try simp only [e21]
      try simp only [tupAt]
      refine OpOK.val (u := .bool false) (by rfl) ?_ (fun W' _ => rfl)
      try simp only [e22]
      try simp only [e21]
      try simp only [tupAt]
      first | (go_simp; done) | (go_simp; with_reducible rfl) | (go_simp; rfl)
    try simp only [Act.put, List.setIfInBounds_toArray, List.set_cons_zero, List.set_cons_succ]
    refine RelO.next (k' := 25) rfl (fun W gW hF => ?_) ?_
    focus
      obtain ⟨h21, h23, _⟩ := hF
      have e21 : val 21 = .bool false := h21 _ (Frm.refl _ W)
      have e23 : val 23 = .bool false := h23 _ (Frm.refl _ W)
      try simp only [e23]
      try simp only [e21]
      try simp only [tupAt]
      refine OpOK.val (u := .bool false) (by rfl) ?_ (fun W' _ => rfl)
      try simp only [e23]
      try simp only [e21]
      try simp only [tupAt]
      first | (go_simp; done) | (go_simp; with_reducible rfl) | (go_simp; rfl)
    try simp only [Act.put, List.setIfInBounds_toArray, List.set_cons_zero, List.set_cons_succ]
    refine RelO.next (k' := 26) rfl (fun W gW hF => ?_) ?_
    focus
      obtain ⟨h24, _⟩ := hF
      have e24 : val 24 = .bool false := h24 _ (Frm.refl _ W)
      try simp only [e24]
      try simp only [tupAt]
      refine OpOK.val (u := .bool false) (by rfl) ?_ (fun W' _ => rfl)
      try simp only [e24]
      try simp only [tupAt]
      first | (go_simp; done) | (go_simp; with_reducible rfl) | (go_simp; rfl)
    try simp only [Act.put, List.setIfInBounds_toArray, List.set_cons_zero, List.set_cons_succ]
    refine RelO.next (k' := 27) rfl (fun W gW hF => ?_) ?_
    focus
      obtain ⟨h25, _⟩ := hF
      have e25 : val 25 = .bool false := h25 _ (Frm.refl _ W)
      try simp only [e25]
      try simp only [tupAt]
      exact OpOK.load (by rfl) _ rfl (by rfl) (load_reg (H2.out W (D.trans gW)).1) (fun W' _ => rfl)
    try simp only [Act.put, List.setIfInBounds_toArray, List.set_cons_zero, List.set_cons_succ]
    refine RelO.next (k' := 28) rfl (fun W gW hF => ?_) ?_
    focus
      obtain ⟨h25, _⟩ := hF
      have e25 : val 25 = .bool false := h25 _ (Frm.refl _ W)
      try simp only [e25]
      try simp only [tupAt]
      exact OpOK.load (by rfl) _ rfl (by rfl) (load_reg (H5.out W (D.trans gW)).1) (fun W' _ => rfl)
    try simp only [Act.put, List.setIfInBounds_toArray, List.set_cons_zero, List.set_cons_succ]
    refine RelO.next (k' := 29) rfl (fun W gW hF => ?_) ?_
    focus
      obtain ⟨h25, h26, h27, _⟩ := hF
      have e25 : val 25 = .bool false := h25 _ (Frm.refl _ W)
      have e26 : val 26 = rg (fC 1 2 0) v44 := h26 _ (Frm.refl _ W)
      have e27 : val 27 = rg (fC 1 2 0) v50 := h27 _ (Frm.refl _ W)
      try simp only [e27]
      try simp only [e26]
      try simp only [e25]
      try simp only [tupAt]
      refine OpOK.call (by rfl) ?_ ((same_any (fC 1 2 0) (fC 1 2 0) v44 v50 [sB] [sA, sB] W (H2.out W (D.trans gW)).2 (H5.out W (D.trans gW)).2).mono ?_)
      · first | (go_simp; done) | (go_simp; with_reducible rfl) | (go_simp; rfl)
      · rintro e W1 ⟨he, g1⟩
        rw [(by decide : (eq8 (fC 1 2 0) (fC 1 2 0) && decide ([sB].map SibI.d = [sA, sB].map SibI.d)) = false)] at he
        subst he
        exact ⟨_, rfl, g1, fun W2 _ => rfl⟩
    try simp only [Act.put, List.setIfInBounds_toArray, List.set_cons_zero, List.set_cons_succ]
    refine RelO.next (k' := 30) rfl (fun W gW hF => ?_) ?_
    focus
      obtain ⟨h25, h28, _⟩ := hF
      have e25 : val 25 = .bool false := h25 _ (Frm.refl _ W)
      have e28 : val 28 = .bool false := h28 _ (Frm.refl _ W)
      try simp only [e28]
      try simp only [e25]
      try simp only [tupAt]
      refine OpOK.val (u := .bool false) (by rfl) ?_ (fun W' _ => rfl)
      try simp only [e28]
      try simp only [e25]
      try simp only [tupAt]
      first | (go_simp; done) | (go_simp; with_reducible rfl) | (go_simp; rfl)
    try simp only [Act.put, List.setIfInBounds_toArray, List.set_cons_zero, List.set_cons_succ]
    refine RelO.next (k' := 31) rfl (fun W gW hF => ?_) ?_
    focus
      obtain ⟨h29, _⟩ := hF
      have e29 : val 29 = .bool false := h29 _ (Frm.refl _ W)
      try simp only [e29]
      try simp only [tupAt]
      refine OpOK.val (u := .bool false) (by rfl) ?_ (fun W' _ => rfl)
      try simp only [e29]
      try simp only [tupAt]
      first | (go_simp; done) | (go_simp; with_reducible rfl) | (go_simp; rfl)
    try simp only [Act.put, List.setIfInBounds_toArray, List.set_cons_zero, List.set_cons_succ]
    refine RelO.next (k' := 32) rfl (fun W gW hF => ?_) ?_
    focus
      obtain ⟨h30, _⟩ := hF
      have e30 : val 30 = .bool false := h30 _ (Frm.refl _ W)
      try simp only [e30]
      try simp only [tupAt]
      exact OpOK.load (by rfl) _ rfl (by rfl) (load_reg (H1.out W (D.trans gW)).1) (fun W' _ => rfl)
    try simp only [Act.put, List.setIfInBounds_toArray, List.set_cons_zero, List.set_cons_succ]
    refine RelO.next (k' := 33) rfl (fun W gW hF => ?_) ?_
    focus
      obtain ⟨h30, _⟩ := hF
      have e30 : val 30 = .bool false := h30 _ (Frm.refl _ W)
      try simp only [e30]
      try simp only [tupAt]
      exact OpOK.load (by rfl) _ rfl (by rfl) (load_reg (H2.out W (D.trans gW)).1) (fun W' _ => rfl)
    try simp only [Act.put, List.setIfInBounds_toArray, List.set_cons_zero, List.set_cons_succ]
    refine RelO.next (k' := 34) rfl (fun W gW hF => ?_) ?_
    focus
      obtain ⟨h30, h31, h32, _⟩ := hF
      have e30 : val 30 = .bool false := h30 _ (Frm.refl _ W)
      have e31 : val 31 = rg (f1) vx := h31 _ (Frm.refl _ W)
      have e32 : val 32 = rg (fC 1 2 0) v44 := h32 _ (Frm.refl _ W)
      try simp only [e32]
      try simp only [e31]
      try simp only [e30]
      try simp only [tupAt]
      refine OpOK.call (by rfl) ?_ ((lost_any f1 (fC 1 2 0) vx v44 [sA] [sB] W (H1.out W (D.trans gW)).2 (H2.out W (D.trans gW)).2 (by decide) (by decide)).mono ?_)
      · first | (go_simp; done) | (go_simp; with_reducible rfl) | (go_simp; rfl)
      · rintro e W1 ⟨v', rfl, o', g', _⟩
        obtain ⟨a', c', rfl, _, _⟩ := Row.slice o'
        exact ⟨_, rfl, g', fun W2 g2 => ⟨a', c', rfl⟩⟩
    try simp only [Act.put, List.setIfInBounds_toArray, List.set_cons_zero, List.set_cons_succ]
    refine RelO.next (k' := 35) rfl (fun W gW hF => ?_) ?_
    focus
      obtain ⟨h30, h33, _⟩ := hF
      have e30 : val 30 = .bool false := h30 _ (Frm.refl _ W)
      have q33 : ∃ a c, (val 33) = .slice a 1 c := h33 _ (Frm.refl _ W)
      obtain ⟨a162, c162, e33⟩ := q33
      try simp only [e33]
      try simp only [e30]
      try simp only [tupAt]
      refine OpOK.val (u := .int .i64 1) (by rfl) ?_ (fun W' _ => rfl)
      try simp only [e33]
      try simp only [e30]
      try simp only [tupAt]
      first | (go_simp; done) | (go_simp; with_reducible rfl) | (go_simp; rfl)
    try simp only [Act.put, List.setIfInBounds_toArray, List.set_cons_zero, List.set_cons_succ]
    refine RelO.next (k' := 36) rfl (fun W gW hF => ?_) ?_
    focus
      obtain ⟨h30, h34, _⟩ := hF
      have e30 : val 30 = .bool false := h30 _ (Frm.refl _ W)
      have e34 : val 34 = .int .i64 1 := h34 _ (Frm.refl _ W)
      try simp only [e34]
      try simp only [e30]
      try simp only [tupAt]
      refine OpOK.val (u := .bool false) (by rfl) ?_ (fun W' _ => rfl)
      try simp only [e34]
      try simp only [e30]
      try simp only [tupAt]
      first | (go_simp; done) | (go_simp; with_reducible rfl) | (go_simp; rfl)
    try simp only [Act.put, List.setIfInBounds_toArray, List.set_cons_zero, List.set_cons_succ]
    refine RelO.next (k' := 37) rfl (fun W gW hF => ?_) ?_
    focus
      obtain ⟨h30, h35, _⟩ := hF
      have e30 : val 30 = .bool false := h30 _ (Frm.refl _ W)
      have e35 : val 35 = .bool false := h35 _ (Frm.refl _ W)
      try simp only [e35]
      try simp only [e30]
      try simp only [tupAt]
      refine OpOK.val (u := .bool false) (by rfl) ?_ (fun W' _ => rfl)
      try simp only [e35]
      try simp only [e30]
      try simp only [tupAt]
      first | (go_simp; done) | (go_simp; with_reducible rfl) | (go_simp; rfl)
    try simp only [Act.put, List.setIfInBounds_toArray, List.set_cons_zero, List.set_cons_succ]
    refine RelO.next (k' := 38) rfl (fun W gW hF => ?_) ?_
    focus
      obtain ⟨h36, _⟩ := hF
      have e36 : val 36 = .bool false := h36 _ (Frm.refl _ W)
      try simp only [e36]
      try simp only [tupAt]
      refine OpOK.val (u := .bool false) (by rfl) ?_ (fun W' _ => rfl)
      try simp only [e36]
      try simp only [tupAt]
      first | (go_simp; done) | (go_simp; with_reducible rfl) | (go_simp; rfl)
    try simp only [Act.put, List.setIfInBounds_toArray, List.set_cons_zero, List.set_cons_succ]
    refine RelO.next (k' := 39) rfl (fun W gW hF => ?_) ?_
    focus
      obtain ⟨h37, _⟩ := hF
      have e37 : val 37 = .bool false := h37 _ (Frm.refl _ W)
      try simp only [e37]
      try simp only [tupAt]
      exact OpOK.load (by rfl) _ rfl (by rfl) (load_reg (H1.out W (D.trans gW)).1) (fun W' _ => rfl)
    try simp only [Act.put, List.setIfInBounds_toArray, List.set_cons_zero, List.set_cons_succ]
    refine RelO.next (k' := 40) rfl (fun W gW hF => ?_) ?_
    focus
      obtain ⟨h37, _⟩ := hF
      have e37 : val 37 = .bool false := h37 _ (Frm.refl _ W)
      try simp only [e37]
      try simp only [tupAt]
      exact OpOK.load (by rfl) _ rfl (by rfl) (load_reg (H5.out W (D.trans gW)).1) (fun W' _ => rfl)
    try simp only [Act.put, List.setIfInBounds_toArray, List.set_cons_zero, List.set_cons_succ]
    refine RelO.next (k' := 41) rfl (fun W gW hF => ?_) ?_
    focus
      obtain ⟨h37, h38, h39, _⟩ := hF
      have e37 : val 37 = .bool false := h37 _ (Frm.refl _ W)
      have e38 : val 38 = rg (f1) vx := h38 _ (Frm.refl _ W)
      have e39 : val 39 = rg (fC 1 2 0) v50 := h39 _ (Frm.refl _ W)
      try simp only [e39]
      try simp only [e38]
      try simp only [e37]
      try simp only [tupAt]
      refine OpOK.call (by rfl) ?_ ((lost_any f1 (fC 1 2 0) vx v50 [sA] [sA, sB] W (H1.out W (D.trans gW)).2 (H5.out W (D.trans gW)).2 (by decide) (by decide)).mono ?_)
      · first | (go_simp; done) | (go_simp; with_reducible rfl) | (go_simp; rfl)
      · rintro e W1 ⟨v', rfl, o', g', _⟩
        obtain ⟨a', c', rfl, _, _⟩ := Row.slice o'
        exact ⟨_, rfl, g', fun W2 g2 => ⟨a', c', rfl⟩⟩
    try simp only [Act.put, List.setIfInBounds_toArray, List.set_cons_zero, List.set_cons_succ]
    refine RelO.next (k' := 42) rfl (fun W gW hF => ?_) ?_
    focus
      obtain ⟨h37, h40, _⟩ := hF
      have e37 : val 37 = .bool false := h37 _ (Frm.refl _ W)
      have q40 : ∃ a c, (val 40) = .slice a 0 c := h40 _ (Frm.refl _ W)
      obtain ⟨a169, c169, e40⟩ := q40
      try simp only [e40]
      try simp only [e37]
      try simp only [tupAt]
      refine OpOK.val (u := .int .i64 0) (by rfl) ?_ (fun W' _ => rfl)
      try simp only [e40]
      try simp only [e37]
      try simp only [tupAt]
      first | (go_simp; done) | (go_simp; with_reducible rfl) | (go_simp; rfl)
    try simp only [Act.put, List.setIfInBounds_toArray, List.set_cons_zero, List.set_cons_succ]
    refine RelO.next (k' := 43) rfl (fun W gW hF => ?_) ?_
    focus
      obtain ⟨h37, h41, _⟩ := hF
      have e37 : val 37 = .bool false := h37 _ (Frm.refl _ W)
      have e41 : val 41 = .int .i64 0 := h41 _ (Frm.refl _ W)
      try simp only [e41]
      try simp only [e37]
      try simp only [tupAt]
      refine OpOK.val (u := .bool false) (by rfl) ?_ (fun W' _ => rfl)
      try simp only [e41]
      try simp only [e37]
      try simp only [tupAt]
      first | (go_simp; done) | (go_simp; with_reducible rfl) | (go_simp; rfl)
    try simp only [Act.put, List.setIfInBounds_toArray, List.set_cons_zero, List.set_cons_succ]
    refine RelO.next (k' := 44) rfl (fun W gW hF => ?_) ?_
    focus
      obtain ⟨h37, h42, _⟩ := hF
      have e37 : val 37 = .bool false := h37 _ (Frm.refl _ W)
      have e42 : val 42 = .bool false := h42 _ (Frm.refl _ W)
      try simp only [e42]
      try simp only [e37]
      try simp only [tupAt]
      refine OpOK.val (u := .bool false) (by rfl) ?_ (fun W' _ => rfl)
      try simp only [e42]
      try simp only [e37]
      try simp only [tupAt]
      first | (go_simp; done) | (go_simp; with_reducible rfl) | (go_simp; rfl)
    try simp only [Act.put, List.setIfInBounds_toArray, List.set_cons_zero, List.set_cons_succ]
    exact RelO.nil
  intro val w9 gW hF
  obtain ⟨h0, h1, h2, h3, h4, h5, h6, h7, h8, h9, h10, h11, h12, h13, h14, h15, h16, h17, h18, h19, h20, h21, h22, h23, h24, h25, h26, h27, h28, h29, h30, h31, h32, h33, h34, h35, h36, h37, h38, h39, h40, h41, h42, h43, _⟩ := hF
  have e0 : val 0 = .int .i64 0 := h0 _ (Frm.refl _ w9)
  have e1 : val 1 = .bool false := h1 _ (Frm.refl _ w9)
  have e2 : val 2 = .bool false := h2 _ (Frm.refl _ w9)
  have e3 : val 3 = rg (fC 1 2 2) v120 := h3 _ (Frm.refl _ w9)
  have e4 : val 4 = .agg (vv (fC 1 2 2)) := h4 _ (Frm.refl _ w9)
  have e5 : val 5 = .agg #[.int .u8 1, .int .u32 2, .string (bs [98])] := h5 _ (Frm.refl _ w9)
  have e6 : val 6 = .agg #[.int .u8 2, .int .u32 2, .string (bs [99])] := h6 _ (Frm.refl _ w9)
  have q7 : ∃ x, (val 7) = x ∧ SL w9 x [sB, sC] := h7 _ (Frm.refl _ w9)
  obtain ⟨x136, e7, o136⟩ := q7
  have e8 : val 8 = .bool true := h8 _ (Frm.refl _ w9)
  have e9 : val 9 = .bool false := h9 _ (Frm.refl _ w9)
  have e10 : val 10 = .bool false := h10 _ (Frm.refl _ w9)
  have e11 : val 11 = .bool false := h11 _ (Frm.refl _ w9)
  have e12 : val 12 = .int .i64 0 := h12 _ (Frm.refl _ w9)
  have e13 : val 13 = .bool false := h13 _ (Frm.refl _ w9)
  have e14 : val 14 = .bool false := h14 _ (Frm.refl _ w9)
  have e15 : val 15 = .bool false := h15 _ (Frm.refl _ w9)
  have e16 : val 16 = rg (fC 1 2 0) v126 := h16 _ (Frm.refl _ w9)
  have e17 : val 17 = .agg (vv (fC 1 2 0)) := h17 _ (Frm.refl _ w9)
  have e18 : val 18 = .bool true := h18 _ (Frm.refl _ w9)
  have e19 : val 19 = .bool false := h19 _ (Frm.refl _ w9)
  have e20 : val 20 = .bool false := h20 _ (Frm.refl _ w9)
  have e21 : val 21 = .bool false := h21 _ (Frm.refl _ w9)
  have e22 : val 22 = .int .i64 0 := h22 _ (Frm.refl _ w9)
  have e23 : val 23 = .bool false := h23 _ (Frm.refl _ w9)
  have e24 : val 24 = .bool false := h24 _ (Frm.refl _ w9)
  have e25 : val 25 = .bool false := h25 _ (Frm.refl _ w9)
  have e26 : val 26 = rg (fC 1 2 0) v44 := h26 _ (Frm.refl _ w9)
  have e27 : val 27 = rg (fC 1 2 0) v50 := h27 _ (Frm.refl _ w9)
  have e28 : val 28 = .bool false := h28 _ (Frm.refl _ w9)
  have e29 : val 29 = .bool false := h29 _ (Frm.refl _ w9)
  have e30 : val 30 = .bool false := h30 _ (Frm.refl _ w9)
  have e31 : val 31 = rg (f1) vx := h31 _ (Frm.refl _ w9)
  have e32 : val 32 = rg (fC 1 2 0) v44 := h32 _ (Frm.refl _ w9)
  have q33 : ∃ a c, (val 33) = .slice a 1 c := h33 _ (Frm.refl _ w9)
  obtain ⟨a162, c162, e33⟩ := q33
  have e34 : val 34 = .int .i64 1 := h34 _ (Frm.refl _ w9)
  have e35 : val 35 = .bool false := h35 _ (Frm.refl _ w9)
  have e36 : val 36 = .bool false := h36 _ (Frm.refl _ w9)
  have e37 : val 37 = .bool false := h37 _ (Frm.refl _ w9)
  have e38 : val 38 = rg (f1) vx := h38 _ (Frm.refl _ w9)
  have e39 : val 39 = rg (fC 1 2 0) v50 := h39 _ (Frm.refl _ w9)
  have q40 : ∃ a c, (val 40) = .slice a 0 c := h40 _ (Frm.refl _ w9)
  obtain ⟨a169, c169, e40⟩ := q40
  have e41 : val 41 = .int .i64 0 := h41 _ (Frm.refl _ w9)
  have e42 : val 42 = .bool false := h42 _ (Frm.refl _ w9)
  have e43 : val 43 = .bool false := h43 _ (Frm.refl _ w9)
  clear h0 h1 h2 h3 h4 h5 h6 h7 h8 h9 h10 h11 h12 h13 h14 h15 h16 h17 h18 h19 h20 h21 h22 h23 h24 h25 h26 h27 h28 h29 h30 h31 h32 h33 h34 h35 h36 h37 h38 h39 h40 h41 h42 h43
  simp only [aO, Act.put, List.setIfInBounds_toArray, List.set_cons_zero, List.set_cons_succ, Nat.reduceAdd]
  try simp only [e43]
  try simp only [e42]
  try simp only [e41]
  try simp only [e40]
  try simp only [e39]
  try simp only [e38]
  try simp only [e37]
  try simp only [e36]
  try simp only [e35]
  try simp only [e34]
  try simp only [e33]
  try simp only [e32]
  try simp only [e31]
  try simp only [e30]
  try simp only [e29]
  try simp only [e28]
  try simp only [e27]
  try simp only [e26]
  try simp only [e25]
  try simp only [e24]
  try simp only [e23]
  try simp only [e22]
  try simp only [e21]
  try simp only [e20]
  try simp only [e19]
  try simp only [e18]
  try simp only [e17]
  try simp only [e16]
  try simp only [e15]
  try simp only [e14]
  try simp only [e13]
  try simp only [e12]
  try simp only [e11]
  try simp only [e10]
  try simp only [e9]
  try simp only [e8]
  try simp only [e7]
  try simp only [e6]
  try simp only [e5]
  try simp only [e4]
  try simp only [e3]
  try simp only [e2]
  try simp only [e1]
  try simp only [e0]
  try simp only [tupAt]
  refine wpTail.doneN ?_
  refine hK _ _ ?_
  have g9 := D.trans gW
  replace H1 := Hid.grow H1 g9
  replace H2 := Hid.grow H2 g9
  replace H3 := Hid.grow H3 g9
  replace H5 := Hid.grow H5 g9
  replace H6 := Hid.grow H6 g9
  replace H8 := Hid.grow H8 g9
  replace H9 := Hid.grow H9 g9
  replace H11 := Hid.grow H11 g9
  replace H12 := Hid.grow H12 g9
  replace H14 := Hid.grow H14 g9
  replace H16 := Hid.grow H16 g9
  replace GG := GG.trans g9
  clear gW D HN HE hK e0 e1 e2 e3 e4 e5 e6 e7 e8 e9 e10 e11 e12 e13 e14 e15 e16 e17 e18 e19 e20 e21 e22 e23 e24 e25 e26 e27 e28 e29 e30 e31 e32 e33 e34 e35 e36 e37 e38 e39 e40 e41 e42 e43 o136
  go_upto_region 12 with fail
  rename_i hK
  obtain ⟨N, hN⟩ : ∃ N, w9.heap.size = N := ⟨_, rfl⟩
  have HN : Hid (∀ W, Frm (fun _ => False) w9 W → N ≤ W.heap.size) := Lib.hid fun W g => hN ▸ g.size
  have HE : Hid (w9.heap.size ≤ N) := Lib.hid (Nat.le_of_eq hN)
  have D : Frm (fun _ => False) w9 w9 := Frm.refl _ _
  clear hN
  refine wp_region_textR 8 3 [[], [0], [1], [1, 2], [1, 2], [1, 2], [], []] kn12M (kn12R vx N) rfl rfl rfl rfl (by kernel_rfl) (by kernel_rfl) (fun val => ?_) ?_
  · try simp only [Act.put, List.setIfInBounds_toArray, List.set_cons_zero, List.set_cons_succ]
    refine RelO.next (k' := 1) rfl (fun W gW hF => ?_) ?_
    focus
      exact OpOK.load (by rfl) _ rfl (by rfl) (load_reg (H1.out W (D.trans gW)).1) (fun W' _ => rfl)
    try simp only [Act.put, List.setIfInBounds_toArray, List.set_cons_zero, List.set_cons_succ]
    refine RelO.next (k' := 2) rfl (fun W gW hF => ?_) ?_
    focus
      obtain ⟨h0, _⟩ := hF
      have e0 : val 0 = rg (f1) vx := h0 _ (Frm.refl _ W)
      try simp only [e0]
      try simp only [tupAt]
      refine OpOK.call (by rfl) ?_ ((kw_p vx W (H1.out W (D.trans gW)).2).mono ?_)
      · first | (go_simp; done) | (go_simp; with_reducible rfl) | (go_simp; rfl)
      · rintro e W1 ⟨v', rfl, o', _, g'⟩
        exact ⟨_, rfl, g', fun W2 g2 => ⟨v', rfl, o'.keep g2 (fun _ _ h => h)⟩⟩
    try simp only [Act.put, List.setIfInBounds_toArray, List.set_cons_zero, List.set_cons_succ]
    refine RelO.next (k' := 3) rfl (fun W gW hF => ?_) ?_
    focus
      obtain ⟨h1, _⟩ := hF
      have q1 : ∃ v', (val 1) = .tuple #[rg (fun _ => 0) v', .agg (dv 0 0), .int .i64 2] ∧ OwnL W v' [] := h1 _ (Frm.refl _ W)
      obtain ⟨v175, e1, o175⟩ := q1
      try simp only [e1]
      try simp only [tupAt]
      refine OpOK.val (u := (val 1)) (by rfl) ?_ (fun W' _ => rfl)
      try simp only [e1]
      try simp only [tupAt]
      first | (go_simp; done) | (go_simp; with_reducible rfl) | (go_simp; rfl)
    try simp only [Act.put, List.setIfInBounds_toArray, List.set_cons_zero, List.set_cons_succ]
    refine RelO.next (k' := 4) rfl (fun W gW hF => ?_) ?_
    focus
      obtain ⟨h1, h2, _⟩ := hF
      have q1 : ∃ v', (val 1) = .tuple #[rg (fun _ => 0) v', .agg (dv 0 0), .int .i64 2] ∧ OwnL W v' [] := h1 _ (Frm.refl _ W)
      obtain ⟨v175, e1, o175⟩ := q1
      have e2 : val 2 = (val 1) := h2 _ (Frm.refl _ W)
      try simp only [e2]
      try simp only [e1]
      try simp only [tupAt]
      refine OpOK.val (u := tupAt (val 2) 0) (by rfl) ?_ (fun W' _ => rfl)
      try simp only [e2]
      try simp only [e1]
      try simp only [tupAt]
      first | (go_simp; done) | (go_simp; with_reducible rfl) | (go_simp; rfl)
    try simp only [Act.put, List.setIfInBounds_toArray, List.set_cons_zero, List.set_cons_succ]
    refine RelO.next (k' := 5) rfl (fun W gW hF => ?_) ?_
    focus
      obtain ⟨h1, h2, _⟩ := hF
      have q1 : ∃ v', (val 1) = .tuple #[rg (fun _ => 0) v', .agg (dv 0 0), .int .i64 2] ∧ OwnL W v' [] := h1 _ (Frm.refl _ W)
      obtain ⟨v175, e1, o175⟩ := q1
      have e2 : val 2 = (val 1) := h2 _ (Frm.refl _ W)
      try simp only [e2]
      try simp only [e1]
      try simp only [tupAt]
      refine OpOK.val (u := tupAt (val 2) 1) (by rfl) ?_ (fun W' _ => rfl)
      try simp only [e2]
      try simp only [e1]
      try simp only [tupAt]
      first | (go_simp; done) | (go_simp; with_reducible rfl) | (go_simp; rfl)
    try simp only [Act.put, List.setIfInBounds_toArray, List.set_cons_zero, List.set_cons_succ]
    refine RelO.next (k' := 6) rfl (fun W gW hF => ?_) ?_
    focus
      obtain ⟨h1, h2, _⟩ := hF
      have q1 : ∃ v', (val 1) = .tuple #[rg (fun _ => 0) v', .agg (dv 0 0), .int .i64 2] ∧ OwnL W v' [] := h1 _ (Frm.refl _ W)
      obtain ⟨v175, e1, o175⟩ := q1
      have e2 : val 2 = (val 1) := h2 _ (Frm.refl _ W)
      try simp only [e2]
      try simp only [e1]
      try simp only [tupAt]
      refine OpOK.val (u := tupAt (val 2) 2) (by rfl) ?_ (fun W' _ => rfl)
      try simp only [e2]
      try simp only [e1]
      try simp only [tupAt]
      first | (go_simp; done) | (go_simp; with_reducible rfl) | (go_simp; rfl)
    try simp only [Act.put, List.setIfInBounds_toArray, List.set_cons_zero, List.set_cons_succ]
    refine RelO.next (k' := 7) rfl (fun W gW hF => ?_) ?_
    focus
      have hlt := HN.out W (D.trans gW)
      refine OpOK.made (W' := W.alloc (.cells rz 39)) (u := .pointer (some ⟨W.heap.size, 0, none⟩)) (by rfl) ?_ ((Frm.refl _ W).alloc _) (fun W2 g2 => ⟨W.heap.size, rfl, hlt, (Blk.alloc W _ _).keep g2 (fun h => h)⟩)
      first | (go_simp; done) | (go_simp; with_reducible rfl) | (go_simp; rfl)
    try simp only [Act.put, List.setIfInBounds_toArray, List.set_cons_zero, List.set_cons_succ]
    refine RelO.next (k' := 8) rfl (fun W gW hF => ?_) ?_
    focus
      have hlt := HN.out W (D.trans gW)
      refine OpOK.made (W' := W.alloc (.cells dz 27)) (u := .pointer (some ⟨W.heap.size, 0, none⟩)) (by rfl) ?_ ((Frm.refl _ W).alloc _) (fun W2 g2 => ⟨W.heap.size, rfl, hlt, (Blk.alloc W _ _).keep g2 (fun h => h)⟩)
      first | (go_simp; done) | (go_simp; with_reducible rfl) | (go_simp; rfl)
    try simp only [Act.put, List.setIfInBounds_toArray, List.set_cons_zero, List.set_cons_succ]
    exact RelO.nil
  intro val W gW hF
  obtain ⟨h0, h1, h2, h3, h4, h5, h6, h7, _⟩ := hF
  have e0 : val 0 = rg (f1) vx := h0 _ (Frm.refl _ W)
  have q1 : ∃ v', (val 1) = .tuple #[rg (fun _ => 0) v', .agg (dv 0 0), .int .i64 2] ∧ OwnL W v' [] := h1 _ (Frm.refl _ W)
  obtain ⟨v175, e1, o175⟩ := q1
  have e2 : val 2 = (val 1) := h2 _ (Frm.refl _ W)
  have e3 : val 3 = tupAt (val 2) 0 := h3 _ (Frm.refl _ W)
  have e4 : val 4 = tupAt (val 2) 1 := h4 _ (Frm.refl _ W)
  have e5 : val 5 = tupAt (val 2) 2 := h5 _ (Frm.refl _ W)
  have q6 : ∃ b, (val 6) = .pointer (some ⟨b, 0, none⟩) ∧ N ≤ b ∧ Blk W b 39 rz := h6 _ (Frm.refl _ W)
  obtain ⟨B18, e6, hB18, bB18⟩ := q6
  have q7 : ∃ b, (val 7) = .pointer (some ⟨b, 0, none⟩) ∧ N ≤ b ∧ Blk W b 27 dz := h7 _ (Frm.refl _ W)
  obtain ⟨B19, e7, hB19, bB19⟩ := q7
  clear h0 h1 h2 h3 h4 h5 h6 h7
  simp only [aO, Act.put, List.setIfInBounds_toArray, List.set_cons_zero, List.set_cons_succ, Nat.reduceAdd]
  try simp only [e7]
  try simp only [e6]
  try simp only [e5]
  try simp only [e4]
  try simp only [e3]
  try simp only [e2]
  try simp only [e1]
  try simp only [e0]
  try simp only [tupAt]
  refine tail_reg3 (w := w9) (fun _ => 0) v175 [] B18 B19 0 0 2 rfl rfl rfl rfl rfl rfl rfl rfl rfl rfl rfl rfl rfl rfl rfl rfl rfl (D.trans gW) (Nat.le_trans HE.out hB18) (Nat.le_trans HE.out hB19) o175 bB18 bB19 ?_
  intro w10 g10 H18 H19
  try simp only [Act.put, List.setIfInBounds_toArray, List.set_cons_zero, List.set_cons_succ]
  refine hK _ _ ?_
  replace H1 := Hid.grow H1 g10
  replace H2 := Hid.grow H2 g10
  replace H3 := Hid.grow H3 g10
  replace H5 := Hid.grow H5 g10
  replace H6 := Hid.grow H6 g10
  replace H8 := Hid.grow H8 g10
  replace H9 := Hid.grow H9 g10
  replace H11 := Hid.grow H11 g10
  replace H12 := Hid.grow H12 g10
  replace H14 := Hid.grow H14 g10
  replace H16 := Hid.grow H16 g10
  replace GG := GG.trans g10
  clear gW D HN HE hK e0 e1 e2 e3 e4 e5 e6 e7 o175 hB18 bB18 hB19 bB19
  go_upto_region 13 with fail
  rename_i hK
  obtain ⟨N, hN⟩ : ∃ N, w10.heap.size = N := ⟨_, rfl⟩
  have HN : Hid (∀ W, Frm (fun _ => False) w10 W → N ≤ W.heap.size) := Lib.hid fun W g => hN ▸ g.size
  have HE : Hid (w10.heap.size ≤ N) := Lib.hid (Nat.le_of_eq hN)
  have D : Frm (fun _ => False) w10 w10 := Frm.refl _ _
  clear hN
  refine wp_region_textR 9 3 [[], [0], [1], [2], [2, 3], [2, 3], [2, 3], [], []] kn13M (kn13R N) rfl rfl rfl rfl (by kernel_rfl) (by kernel_rfl) (fun val => ?_) ?_
  · try simp only [Act.put, List.setIfInBounds_toArray, List.set_cons_zero, List.set_cons_succ]
    refine RelO.next (k' := 1) rfl (fun W gW hF => ?_) ?_
    focus
      exact OpOK.val (u := .agg (vv (fC 0 65535 0))) (by rfl) (by go_simp; first | rfl | simp [fC]) (fun W' _ => rfl)
    try simp only [Act.put, List.setIfInBounds_toArray, List.set_cons_zero, List.set_cons_succ]
    refine RelO.next (k' := 2) rfl (fun W gW hF => ?_) ?_
    focus
      obtain ⟨h0, _⟩ := hF
      have e0 : val 0 = .agg (vv (fC 0 65535 0)) := h0 _ (Frm.refl _ W)
      try simp only [e0]
      try simp only [tupAt]
      exact OpOK.val (u := rg (fC 0 65535 0) (.slice none 0 0)) (by rfl) (by first | (go_simp; done) | (go_simp; with_reducible rfl) | (go_simp; rfl)) (fun W' _ => rfl)
    try simp only [Act.put, List.setIfInBounds_toArray, List.set_cons_zero, List.set_cons_succ]
    refine RelO.next (k' := 3) rfl (fun W gW hF => ?_) ?_
    focus
      obtain ⟨h1, _⟩ := hF
      have e1 : val 1 = rg (fC 0 65535 0) (.slice none 0 0) := h1 _ (Frm.refl _ W)
      try simp only [e1]
      try simp only [tupAt]
      refine OpOK.call (by rfl) ?_ ((kw_q W).mono ?_)
      · first | (go_simp; done) | (go_simp; with_reducible rfl) | (go_simp; rfl)
      · rintro e W1 ⟨v', rfl, o', _, g'⟩
        exact ⟨_, rfl, g', fun W2 g2 => ⟨v', rfl, o'.keep g2 (fun _ _ h => h)⟩⟩
    try simp only [Act.put, List.setIfInBounds_toArray, List.set_cons_zero, List.set_cons_succ]
    refine RelO.next (k' := 4) rfl (fun W gW hF => ?_) ?_
    focus
      obtain ⟨h2, _⟩ := hF
      have q2 : ∃ v', (val 2) = .tuple #[rg (fun _ => 0) v', .agg (dv 0 0), .int .i64 12] ∧ OwnL W v' [] := h2 _ (Frm.refl _ W)
      obtain ⟨v182, e2, o182⟩ := q2
      try simp only [e2]
      try simp only [tupAt]
      refine OpOK.val (u := (val 2)) (by rfl) ?_ (fun W' _ => rfl)
      try simp only [e2]
      try simp only [tupAt]
      first | (go_simp; done) | (go_simp; with_reducible rfl) | (go_simp; rfl)
    try simp only [Act.put, List.setIfInBounds_toArray, List.set_cons_zero, List.set_cons_succ]
    refine RelO.next (k' := 5) rfl (fun W gW hF => ?_) ?_
    focus
      obtain ⟨h2, h3, _⟩ := hF
      have q2 : ∃ v', (val 2) = .tuple #[rg (fun _ => 0) v', .agg (dv 0 0), .int .i64 12] ∧ OwnL W v' [] := h2 _ (Frm.refl _ W)
      obtain ⟨v182, e2, o182⟩ := q2
      have e3 : val 3 = (val 2) := h3 _ (Frm.refl _ W)
      try simp only [e3]
      try simp only [e2]
      try simp only [tupAt]
      refine OpOK.val (u := tupAt (val 3) 0) (by rfl) ?_ (fun W' _ => rfl)
      try simp only [e3]
      try simp only [e2]
      try simp only [tupAt]
      first | (go_simp; done) | (go_simp; with_reducible rfl) | (go_simp; rfl)
    try simp only [Act.put, List.setIfInBounds_toArray, List.set_cons_zero, List.set_cons_succ]
    refine RelO.next (k' := 6) rfl (fun W gW hF => ?_) ?_
    focus
      obtain ⟨h2, h3, _⟩ := hF
      have q2 : ∃ v', (val 2) = .tuple #[rg (fun _ => 0) v', .agg (dv 0 0), .int .i64 12] ∧ OwnL W v' [] := h2 _ (Frm.refl _ W)
      obtain ⟨v182, e2, o182⟩ := q2
      have e3 : val 3 = (val 2) := h3 _ (Frm.refl _ W)
      try simp only [e3]
      try simp only [e2]
      try simp only [tupAt]
      refine OpOK.val (u := tupAt (val 3) 1) (by rfl) ?_ (fun W' _ => rfl)
      try simp only [e3]
      try simp only [e2]
      try simp only [tupAt]
      first | (go_simp; done) | (go_simp; with_reducible rfl) | (go_simp; rfl)
    try simp only [Act.put, List.setIfInBounds_toArray, List.set_cons_zero, List.set_cons_succ]
    refine RelO.next (k' := 7) rfl (fun W gW hF => ?_) ?_
    focus
      obtain ⟨h2, h3, _⟩ := hF
      have q2 : ∃ v', (val 2) = .tuple #[rg (fun _ => 0) v', .agg (dv 0 0), .int .i64 12] ∧ OwnL W v' [] := h2 _ (Frm.refl _ W)
      obtain ⟨v182, e2, o182⟩ := q2
      have e3 : val 3 = (val 2) := h3 _ (Frm.refl _ W)
      try simp only [e3]
      try simp only [e2]
      try simp only [tupAt]
      refine OpOK.val (u := tupAt (val 3) 2) (by rfl) ?_ (fun W' _ => rfl)
      try simp only [e3]
      try simp only [e2]
      try simp only [tupAt]
      first | (go_simp; done) | (go_simp; with_reducible rfl) | (go_simp; rfl)
    try simp only [Act.put, List.setIfInBounds_toArray, List.set_cons_zero, List.set_cons_succ]
    refine RelO.next (k' := 8) rfl (fun W gW hF => ?_) ?_
    focus
      have hlt := HN.out W (D.trans gW)
      refine OpOK.made (W' := W.alloc (.cells rz 39)) (u := .pointer (some ⟨W.heap.size, 0, none⟩)) (by rfl) ?_ ((Frm.refl _ W).alloc _) (fun W2 g2 => ⟨W.heap.size, rfl, hlt, (Blk.alloc W _ _).keep g2 (fun h => h)⟩)
      first | (go_simp; done) | (go_simp; with_reducible rfl) | (go_simp; rfl)
    try simp only [Act.put, List.setIfInBounds_toArray, List.set_cons_zero, List.set_cons_succ]
    refine RelO.next (k' := 9) rfl (fun W gW hF => ?_) ?_
    focus
      have hlt := HN.out W (D.trans gW)
      refine OpOK.made (W' := W.alloc (.cells dz 27)) (u := .pointer (some ⟨W.heap.size, 0, none⟩)) (by rfl) ?_ ((Frm.refl _ W).alloc _) (fun W2 g2 => ⟨W.heap.size, rfl, hlt, (Blk.alloc W _ _).keep g2 (fun h => h)⟩)
      first | (go_simp; done) | (go_simp; with_reducible rfl) | (go_simp; rfl)
    try simp only [Act.put, List.setIfInBounds_toArray, List.set_cons_zero, List.set_cons_succ]
    exact RelO.nil
  intro val W gW hF
  obtain ⟨h0, h1, h2, h3, h4, h5, h6, h7, h8, _⟩ := hF
  have e0 : val 0 = .agg (vv (fC 0 65535 0)) := h0 _ (Frm.refl _ W)
  have e1 : val 1 = rg (fC 0 65535 0) (.slice none 0 0) := h1 _ (Frm.refl _ W)
  have q2 : ∃ v', (val 2) = .tuple #[rg (fun _ => 0) v', .agg (dv 0 0), .int .i64 12] ∧ OwnL W v' [] := h2 _ (Frm.refl _ W)
  obtain ⟨v182, e2, o182⟩ := q2
  have e3 : val 3 = (val 2) := h3 _ (Frm.refl _ W)
  have e4 : val 4 = tupAt (val 3) 0 := h4 _ (Frm.refl _ W)
  have e5 : val 5 = tupAt (val 3) 1 := h5 _ (Frm.refl _ W)
  have e6 : val 6 = tupAt (val 3) 2 := h6 _ (Frm.refl _ W)
  have q7 : ∃ b, (val 7) = .pointer (some ⟨b, 0, none⟩) ∧ N ≤ b ∧ Blk W b 39 rz := h7 _ (Frm.refl _ W)
  obtain ⟨B21, e7, hB21, bB21⟩ := q7
  have q8 : ∃ b, (val 8) = .pointer (some ⟨b, 0, none⟩) ∧ N ≤ b ∧ Blk W b 27 dz := h8 _ (Frm.refl _ W)
  obtain ⟨B22, e8, hB22, bB22⟩ := q8
  clear h0 h1 h2 h3 h4 h5 h6 h7 h8
  simp only [aO, Act.put, List.setIfInBounds_toArray, List.set_cons_zero, List.set_cons_succ, Nat.reduceAdd]
  try simp only [e8]
  try simp only [e7]
  try simp only [e6]
  try simp only [e5]
  try simp only [e4]
  try simp only [e3]
  try simp only [e2]
  try simp only [e1]
  try simp only [e0]
  try simp only [tupAt]
  refine tail_reg3 (w := w10) (fun _ => 0) v182 [] B21 B22 0 0 12 rfl rfl rfl rfl rfl rfl rfl rfl rfl rfl rfl rfl rfl rfl rfl rfl rfl (D.trans gW) (Nat.le_trans HE.out hB21) (Nat.le_trans HE.out hB22) o182 bB21 bB22 ?_
  intro w11 g11 H21 H22
  try simp only [Act.put, List.setIfInBounds_toArray, List.set_cons_zero, List.set_cons_succ]
  refine hK _ _ ?_
  replace H1 := Hid.grow H1 g11
  replace H2 := Hid.grow H2 g11
  replace H3 := Hid.grow H3 g11
  replace H5 := Hid.grow H5 g11
  replace H6 := Hid.grow H6 g11
  replace H8 := Hid.grow H8 g11
  replace H9 := Hid.grow H9 g11
  replace H11 := Hid.grow H11 g11
  replace H12 := Hid.grow H12 g11
  replace H14 := Hid.grow H14 g11
  replace H16 := Hid.grow H16 g11
  replace H18 := Hid.grow H18 g11
  replace H19 := Hid.grow H19 g11
  replace GG := GG.trans g11
  clear gW D HN HE hK e0 e1 e2 e3 e4 e5 e6 e7 e8 o182 hB21 bB21 hB22 bB22
  go_upto_region 14 with fail
  rename_i hK
  obtain ⟨N, hN⟩ : ∃ N, w11.heap.size = N := ⟨_, rfl⟩
  have HN : Hid (∀ W, Frm (fun _ => False) w11 W → N ≤ W.heap.size) := Lib.hid fun W g => hN ▸ g.size
  have HE : Hid (w11.heap.size ≤ N) := Lib.hid (Nat.le_of_eq hN)
  have D : Frm (fun _ => False) w11 w11 := Frm.refl _ _
  clear hN
  refine wp_region_textR 11 3 [[], [], [1], [0, 2], [3], [4], [4, 5], [4, 5], [4, 5], [], []] kn14M (kn14R N) rfl rfl rfl rfl (by kernel_rfl) (by kernel_rfl) (fun val => ?_) ?_
  · try simp only [Act.put, List.setIfInBounds_toArray, List.set_cons_zero, List.set_cons_succ]
    refine RelO.next (k' := 1) rfl (fun W gW hF => ?_) ?_
    focus
      exact OpOK.val (u := .agg (vv (fC 1 0 0))) (by rfl) (by go_simp; first | rfl | simp [fC]) (fun W' _ => rfl)
    try simp only [Act.put, List.setIfInBounds_toArray, List.set_cons_zero, List.set_cons_succ]
    refine RelO.next (k' := 2) rfl (fun W gW hF => ?_) ?_
    focus
      refine OpOK.call (by rfl) ?_ ((sib_any 0 2 [] W).mono ?_)
      · first | (go_simp; done) | (go_simp; with_reducible rfl) | (go_simp; rfl)
      · rintro e W1 ⟨he, g1⟩
        subst he
        exact ⟨_, rfl, g1, fun W2 _ => rfl⟩
    try simp only [Act.put, List.setIfInBounds_toArray, List.set_cons_zero, List.set_cons_succ]
    refine RelO.next (k' := 3) rfl (fun W gW hF => ?_) ?_
    focus
      obtain ⟨h1, _⟩ := hF
      have e1 : val 1 = .agg #[.int .u8 0, .int .u32 2, .string (bs [])] := h1 _ (Frm.refl _ W)
      try simp only [e1]
      try simp only [tupAt]
      refine OpOK.made (W' := W.alloc (.cells #[.int .u8 0, .int .u32 2, .string (bs [])] 76)) (u := .slice (some ⟨W.heap.size, 0, none⟩) 1 1) (by rfl) ?_ ((Frm.refl _ W).alloc _) (fun W2 g2 => ⟨_, rfl, (OwnL.sl (OwnL.one W sE)).keepF g2⟩)
      first | (go_simp; done) | (go_simp; with_reducible rfl) | (go_simp; rfl)
    try simp only [Act.put, List.setIfInBounds_toArray, List.set_cons_zero, List.set_cons_succ]
    refine RelO.next (k' := 4) rfl (fun W gW hF => ?_) ?_
    focus
      obtain ⟨h0, h2, _⟩ := hF
      have e0 : val 0 = .agg (vv (fC 1 0 0)) := h0 _ (Frm.refl _ W)
      have q2 : ∃ b, (val 2) = .slice (some ⟨b, 0, none⟩) 1 1 ∧ SL W (.slice (some ⟨b, 0, none⟩) 1 1) [sE] := h2 _ (Frm.refl _ W)
      obtain ⟨b189, e2, o189⟩ := q2
      try simp only [e2]
      try simp only [e0]
      try simp only [tupAt]
      exact OpOK.val (u := rg (fC 1 0 0) (.slice (some ⟨b189, 0, none⟩) 1 1)) (by rfl) (by first | (go_simp; done) | (go_simp; with_reducible rfl) | (go_simp; rfl)) (fun W2 g2 => ⟨_, rfl, o189.keepF g2⟩)
    try simp only [Act.put, List.setIfInBounds_toArray, List.set_cons_zero, List.set_cons_succ]
    refine RelO.next (k' := 5) rfl (fun W gW hF => ?_) ?_
    focus
      obtain ⟨h3, _⟩ := hF
      have q3 : ∃ x, (val 3) = rg (fC 1 0 0) x ∧ SL W x [sE] := h3 _ (Frm.refl _ W)
      obtain ⟨x190, e3, o190⟩ := q3
      try simp only [e3]
      try simp only [tupAt]
      refine OpOK.call (by rfl) ?_ ((kd_s x190 W o190).mono ?_)
      · first | (go_simp; done) | (go_simp; with_reducible rfl) | (go_simp; rfl)
      · rintro e W1 ⟨v', rfl, o', _, g'⟩
        exact ⟨_, rfl, g', fun W2 g2 => ⟨v', rfl, o'.keep g2 (fun _ _ h => h)⟩⟩
    try simp only [Act.put, List.setIfInBounds_toArray, List.set_cons_zero, List.set_cons_succ]
    refine RelO.next (k' := 6) rfl (fun W gW hF => ?_) ?_
    focus
      obtain ⟨h4, _⟩ := hF
      have q4 : ∃ v', (val 4) = .tuple #[rg (fun _ => 0) v', .agg (dv 0 0), .int .i64 4] ∧ OwnL W v' [] := h4 _ (Frm.refl _ W)
      obtain ⟨v191, e4, o191⟩ := q4
      try simp only [e4]
      try simp only [tupAt]
      refine OpOK.val (u := (val 4)) (by rfl) ?_ (fun W' _ => rfl)
      try simp only [e4]
      try simp only [tupAt]
      first | (go_simp; done) | (go_simp; with_reducible rfl) | (go_simp; rfl)
    try simp only [Act.put, List.setIfInBounds_toArray, List.set_cons_zero, List.set_cons_succ]
    refine RelO.next (k' := 7) rfl (fun W gW hF => ?_) ?_
    focus
      obtain ⟨h4, h5, _⟩ := hF
      have q4 : ∃ v', (val 4) = .tuple #[rg (fun _ => 0) v', .agg (dv 0 0), .int .i64 4] ∧ OwnL W v' [] := h4 _ (Frm.refl _ W)
      obtain ⟨v191, e4, o191⟩ := q4
      have e5 : val 5 = (val 4) := h5 _ (Frm.refl _ W)
      try simp only [e5]
      try simp only [e4]
      try simp only [tupAt]
      refine OpOK.val (u := tupAt (val 5) 0) (by rfl) ?_ (fun W' _ => rfl)
      try simp only [e5]
      try simp only [e4]
      try simp only [tupAt]
      first | (go_simp; done) | (go_simp; with_reducible rfl) | (go_simp; rfl)
    try simp only [Act.put, List.setIfInBounds_toArray, List.set_cons_zero, List.set_cons_succ]
    refine RelO.next (k' := 8) rfl (fun W gW hF => ?_) ?_
    focus
      obtain ⟨h4, h5, _⟩ := hF
      have q4 : ∃ v', (val 4) = .tuple #[rg (fun _ => 0) v', .agg (dv 0 0), .int .i64 4] ∧ OwnL W v' [] := h4 _ (Frm.refl _ W)
      obtain ⟨v191, e4, o191⟩ := q4
      have e5 : val 5 = (val 4) := h5 _ (Frm.refl _ W)
      try simp only [e5]
      try simp only [e4]
      try simp only [tupAt]
      refine OpOK.val (u := tupAt (val 5) 1) (by rfl) ?_ (fun W' _ => rfl)
      try simp only [e5]
      try simp only [e4]
      try simp only [tupAt]
      first | (go_simp; done) | (go_simp; with_reducible rfl) | (go_simp; rfl)
    try simp only [Act.put, List.setIfInBounds_toArray, List.set_cons_zero, List.set_cons_succ]
    refine RelO.next (k' := 9) rfl (fun W gW hF => ?_) ?_
    focus
      obtain ⟨h4, h5, _⟩ := hF
      have q4 : ∃ v', (val 4) = .tuple #[rg (fun _ => 0) v', .agg (dv 0 0), .int .i64 4] ∧ OwnL W v' [] := h4 _ (Frm.refl _ W)
      obtain ⟨v191, e4, o191⟩ := q4
      have e5 : val 5 = (val 4) := h5 _ (Frm.refl _ W)
      try simp only [e5]
      try simp only [e4]
      try simp only [tupAt]
      refine OpOK.val (u := tupAt (val 5) 2) (by rfl) ?_ (fun W' _ => rfl)
      try simp only [e5]
      try simp only [e4]
      try simp only [tupAt]
      first | (go_simp; done) | (go_simp; with_reducible rfl) | (go_simp; rfl)
    try simp only [Act.put, List.setIfInBounds_toArray, List.set_cons_zero, List.set_cons_succ]
    refine RelO.next (k' := 10) rfl (fun W gW hF => ?_) ?_
    focus
      have hlt := HN.out W (D.trans gW)
      refine OpOK.made (W' := W.alloc (.cells rz 39)) (u := .pointer (some ⟨W.heap.size, 0, none⟩)) (by rfl) ?_ ((Frm.refl _ W).alloc _) (fun W2 g2 => ⟨W.heap.size, rfl, hlt, (Blk.alloc W _ _).keep g2 (fun h => h)⟩)
      first | (go_simp; done) | (go_simp; with_reducible rfl) | (go_simp; rfl)
    try simp only [Act.put, List.setIfInBounds_toArray, List.set_cons_zero, List.set_cons_succ]
    refine RelO.next (k' := 11) rfl (fun W gW hF => ?_) ?_
    focus
      have hlt := HN.out W (D.trans gW)
      refine OpOK.made (W' := W.alloc (.cells dz 27)) (u := .pointer (some ⟨W.heap.size, 0, none⟩)) (by rfl) ?_ ((Frm.refl _ W).alloc _) (fun W2 g2 => ⟨W.heap.size, rfl, hlt, (Blk.alloc W _ _).keep g2 (fun h => h)⟩)
      first | (go_simp; done) | (go_simp; with_reducible rfl) | (go_simp; rfl)
    try simp only [Act.put, List.setIfInBounds_toArray, List.set_cons_zero, List.set_cons_succ]
    exact RelO.nil
  intro val W gW hF
  obtain ⟨h0, h1, h2, h3, h4, h5, h6, h7, h8, h9, h10, _⟩ := hF
  have e0 : val 0 = .agg (vv (fC 1 0 0)) := h0 _ (Frm.refl _ W)
  have e1 : val 1 = .agg #[.int .u8 0, .int .u32 2, .string (bs [])] := h1 _ (Frm.refl _ W)
  have q2 : ∃ b, (val 2) = .slice (some ⟨b, 0, none⟩) 1 1 ∧ SL W (.slice (some ⟨b, 0, none⟩) 1 1) [sE] := h2 _ (Frm.refl _ W)
  obtain ⟨b189, e2, o189⟩ := q2
  have q3 : ∃ x, (val 3) = rg (fC 1 0 0) x ∧ SL W x [sE] := h3 _ (Frm.refl _ W)
  obtain ⟨x190, e3, o190⟩ := q3
  have q4 : ∃ v', (val 4) = .tuple #[rg (fun _ => 0) v', .agg (dv 0 0), .int .i64 4] ∧ OwnL W v' [] := h4 _ (Frm.refl _ W)
  obtain ⟨v191, e4, o191⟩ := q4
  have e5 : val 5 = (val 4) := h5 _ (Frm.refl _ W)
  have e6 : val 6 = tupAt (val 5) 0 := h6 _ (Frm.refl _ W)
  have e7 : val 7 = tupAt (val 5) 1 := h7 _ (Frm.refl _ W)
  have e8 : val 8 = tupAt (val 5) 2 := h8 _ (Frm.refl _ W)
  have q9 : ∃ b, (val 9) = .pointer (some ⟨b, 0, none⟩) ∧ N ≤ b ∧ Blk W b 39 rz := h9 _ (Frm.refl _ W)
  obtain ⟨B24, e9, hB24, bB24⟩ := q9
  have q10 : ∃ b, (val 10) = .pointer (some ⟨b, 0, none⟩) ∧ N ≤ b ∧ Blk W b 27 dz := h10 _ (Frm.refl _ W)
  obtain ⟨B25, e10, hB25, bB25⟩ := q10
  clear h0 h1 h2 h3 h4 h5 h6 h7 h8 h9 h10
  simp only [aO, Act.put, List.setIfInBounds_toArray, List.set_cons_zero, List.set_cons_succ, Nat.reduceAdd]
  try simp only [e10]
  try simp only [e9]
  try simp only [e8]
  try simp only [e7]
  try simp only [e6]
  try simp only [e5]
  try simp only [e4]
  try simp only [e3]
  try simp only [e2]
  try simp only [e1]
  try simp only [e0]
  try simp only [tupAt]
  refine tail_reg3 (w := w11) (fun _ => 0) v191 [] B24 B25 0 0 4 rfl rfl rfl rfl rfl rfl rfl rfl rfl rfl rfl rfl rfl rfl rfl rfl rfl (D.trans gW) (Nat.le_trans HE.out hB24) (Nat.le_trans HE.out hB25) o191 bB24 bB25 ?_
  intro w12 g12 H24 H25
  try simp only [Act.put, List.setIfInBounds_toArray, List.set_cons_zero, List.set_cons_succ]
  refine hK _ _ ?_
  replace H1 := Hid.grow H1 g12
  replace H2 := Hid.grow H2 g12
  replace H3 := Hid.grow H3 g12
  replace H5 := Hid.grow H5 g12
  replace H6 := Hid.grow H6 g12
  replace H8 := Hid.grow H8 g12
  replace H9 := Hid.grow H9 g12
  replace H11 := Hid.grow H11 g12
  replace H12 := Hid.grow H12 g12
  replace H14 := Hid.grow H14 g12
  replace H16 := Hid.grow H16 g12
  replace H18 := Hid.grow H18 g12
  replace H19 := Hid.grow H19 g12
  replace H21 := Hid.grow H21 g12
  replace H22 := Hid.grow H22 g12
  replace GG := GG.trans g12
  clear gW D HN HE hK e0 e1 e2 e3 e4 e5 e6 e7 e8 e9 e10 o189 o190 o191 hB24 bB24 hB25 bB25
  go_upto_region 15 with fail
  rename_i hK
  obtain ⟨N, hN⟩ : ∃ N, w12.heap.size = N := ⟨_, rfl⟩
  have HN : Hid (∀ W, Frm (fun _ => False) w12 W → N ≤ W.heap.size) := Lib.hid fun W g => hN ▸ g.size
  have HE : Hid (w12.heap.size ≤ N) := Lib.hid (Nat.le_of_eq hN)
  have D : Frm (fun _ => False) w12 w12 := Frm.refl _ _
  clear hN
  refine wp_region_textR 8 2 [[], [], [1], [0, 2], [3], [3, 4], [3, 4], []] kn15M (kn15R vx N) rfl rfl rfl rfl (by kernel_rfl) (by kernel_rfl) (fun val => ?_) ?_
  · try simp only [Act.put, List.setIfInBounds_toArray, List.set_cons_zero, List.set_cons_succ]
    refine RelO.next (k' := 1) rfl (fun W gW hF => ?_) ?_
    focus
      exact OpOK.load (by rfl) _ rfl (by rfl) (load_reg (H1.out W (D.trans gW)).1) (fun W' _ => rfl)
    try simp only [Act.put, List.setIfInBounds_toArray, List.set_cons_zero, List.set_cons_succ]
    refine RelO.next (k' := 2) rfl (fun W gW hF => ?_) ?_
    focus
      exact OpOK.val (u := .agg (vv (fC 65536 0 0))) (by rfl) (by go_simp; first | rfl | simp [fC]) (fun W' _ => rfl)
    try simp only [Act.put, List.setIfInBounds_toArray, List.set_cons_zero, List.set_cons_succ]
    refine RelO.next (k' := 3) rfl (fun W gW hF => ?_) ?_
    focus
      obtain ⟨h1, _⟩ := hF
      have e1 : val 1 = .agg (vv (fC 65536 0 0)) := h1 _ (Frm.refl _ W)
      try simp only [e1]
      try simp only [tupAt]
      exact OpOK.val (u := rg (fC 65536 0 0) (.slice none 0 0)) (by rfl) (by first | (go_simp; done) | (go_simp; with_reducible rfl) | (go_simp; rfl)) (fun W' _ => rfl)
    try simp only [Act.put, List.setIfInBounds_toArray, List.set_cons_zero, List.set_cons_succ]
    refine RelO.next (k' := 4) rfl (fun W gW hF => ?_) ?_
    focus
      obtain ⟨h0, h2, _⟩ := hF
      have e0 : val 0 = rg (f1) vx := h0 _ (Frm.refl _ W)
      have e2 : val 2 = rg (fC 65536 0 0) (.slice none 0 0) := h2 _ (Frm.refl _ W)
      try simp only [e2]
      try simp only [e0]
      try simp only [tupAt]
      refine OpOK.call (by rfl) ?_ ((sjoin_any f1 (fC 65536 0 0) vx (.slice none 0 0) [sA] [] W f1_fit (fC_fit (by decide) (by decide) (by decide)) (H1.out W (D.trans gW)).2 (OwnL.nil_ W).sl (by decide) (by decide)).mono ?_)
      · first | (go_simp; done) | (go_simp; with_reducible rfl) | (go_simp; rfl)
      · rintro e W1 ⟨v', f', l', e0, rfl, o', _, g', hj⟩
        obtain ⟨rfl, rfl, rfl⟩ := join_t hj
        exact ⟨_, rfl, g', fun W2 g2 => ⟨v', rfl, o'.keep g2 (fun _ _ h => h)⟩⟩
    try simp only [Act.put, List.setIfInBounds_toArray, List.set_cons_zero, List.set_cons_succ]
    refine RelO.next (k' := 5) rfl (fun W gW hF => ?_) ?_
    focus
      obtain ⟨h3, _⟩ := hF
      have q3 : ∃ v', (val 3) = .tuple #[rg (fun _ => 0) v', .int .i64 4] ∧ OwnL W v' [] := h3 _ (Frm.refl _ W)
      obtain ⟨v199, e3, o199⟩ := q3
      try simp only [e3]
      try simp only [tupAt]
      refine OpOK.val (u := (val 3)) (by rfl) ?_ (fun W' _ => rfl)
      try simp only [e3]
      try simp only [tupAt]
      first | (go_simp; done) | (go_simp; with_reducible rfl) | (go_simp; rfl)
    try simp only [Act.put, List.setIfInBounds_toArray, List.set_cons_zero, List.set_cons_succ]
    refine RelO.next (k' := 6) rfl (fun W gW hF => ?_) ?_
    focus
      obtain ⟨h3, h4, _⟩ := hF
      have q3 : ∃ v', (val 3) = .tuple #[rg (fun _ => 0) v', .int .i64 4] ∧ OwnL W v' [] := h3 _ (Frm.refl _ W)
      obtain ⟨v199, e3, o199⟩ := q3
      have e4 : val 4 = (val 3) := h4 _ (Frm.refl _ W)
      try simp only [e4]
      try simp only [e3]
      try simp only [tupAt]
      refine OpOK.val (u := tupAt (val 4) 0) (by rfl) ?_ (fun W' _ => rfl)
      try simp only [e4]
      try simp only [e3]
      try simp only [tupAt]
      first | (go_simp; done) | (go_simp; with_reducible rfl) | (go_simp; rfl)
    try simp only [Act.put, List.setIfInBounds_toArray, List.set_cons_zero, List.set_cons_succ]
    refine RelO.next (k' := 7) rfl (fun W gW hF => ?_) ?_
    focus
      obtain ⟨h3, h4, _⟩ := hF
      have q3 : ∃ v', (val 3) = .tuple #[rg (fun _ => 0) v', .int .i64 4] ∧ OwnL W v' [] := h3 _ (Frm.refl _ W)
      obtain ⟨v199, e3, o199⟩ := q3
      have e4 : val 4 = (val 3) := h4 _ (Frm.refl _ W)
      try simp only [e4]
      try simp only [e3]
      try simp only [tupAt]
      refine OpOK.val (u := tupAt (val 4) 1) (by rfl) ?_ (fun W' _ => rfl)
      try simp only [e4]
      try simp only [e3]
      try simp only [tupAt]
      first | (go_simp; done) | (go_simp; with_reducible rfl) | (go_simp; rfl)
    try simp only [Act.put, List.setIfInBounds_toArray, List.set_cons_zero, List.set_cons_succ]
    refine RelO.next (k' := 8) rfl (fun W gW hF => ?_) ?_
    focus
      have hlt := HN.out W (D.trans gW)
      refine OpOK.made (W' := W.alloc (.cells rz 39)) (u := .pointer (some ⟨W.heap.size, 0, none⟩)) (by rfl) ?_ ((Frm.refl _ W).alloc _) (fun W2 g2 => ⟨W.heap.size, rfl, hlt, (Blk.alloc W _ _).keep g2 (fun h => h)⟩)
      first | (go_simp; done) | (go_simp; with_reducible rfl) | (go_simp; rfl)
    try simp only [Act.put, List.setIfInBounds_toArray, List.set_cons_zero, List.set_cons_succ]
    exact RelO.nil
  intro val W gW hF
  obtain ⟨h0, h1, h2, h3, h4, h5, h6, h7, _⟩ := hF
  have e0 : val 0 = rg (f1) vx := h0 _ (Frm.refl _ W)
  have e1 : val 1 = .agg (vv (fC 65536 0 0)) := h1 _ (Frm.refl _ W)
  have e2 : val 2 = rg (fC 65536 0 0) (.slice none 0 0) := h2 _ (Frm.refl _ W)
  have q3 : ∃ v', (val 3) = .tuple #[rg (fun _ => 0) v', .int .i64 4] ∧ OwnL W v' [] := h3 _ (Frm.refl _ W)
  obtain ⟨v199, e3, o199⟩ := q3
  have e4 : val 4 = (val 3) := h4 _ (Frm.refl _ W)
  have e5 : val 5 = tupAt (val 4) 0 := h5 _ (Frm.refl _ W)
  have e6 : val 6 = tupAt (val 4) 1 := h6 _ (Frm.refl _ W)
  have q7 : ∃ b, (val 7) = .pointer (some ⟨b, 0, none⟩) ∧ N ≤ b ∧ Blk W b 39 rz := h7 _ (Frm.refl _ W)
  obtain ⟨B27, e7, hB27, bB27⟩ := q7
  clear h0 h1 h2 h3 h4 h5 h6 h7
  simp only [aO, Act.put, List.setIfInBounds_toArray, List.set_cons_zero, List.set_cons_succ, Nat.reduceAdd]
  try simp only [e7]
  try simp only [e6]
  try simp only [e5]
  try simp only [e4]
  try simp only [e3]
  try simp only [e2]
  try simp only [e1]
  try simp only [e0]
  try simp only [tupAt]
  refine tail_reg1 (w := w12) (fun _ => 0) v199 [] B27 4 rfl rfl rfl rfl rfl rfl rfl rfl rfl rfl rfl (D.trans gW) (Nat.le_trans HE.out hB27) o199 bB27 ?_
  intro w13 g13 H27
  try simp only [Act.put, List.setIfInBounds_toArray, List.set_cons_zero, List.set_cons_succ]
  refine hK _ _ ?_
  replace H1 := Hid.grow H1 g13
  replace H2 := Hid.grow H2 g13
  replace H3 := Hid.grow H3 g13
  replace H5 := Hid.grow H5 g13
  replace H6 := Hid.grow H6 g13
  replace H8 := Hid.grow H8 g13
  replace H9 := Hid.grow H9 g13
  replace H11 := Hid.grow H11 g13
  replace H12 := Hid.grow H12 g13
  replace H14 := Hid.grow H14 g13
  replace H16 := Hid.grow H16 g13
  replace H18 := Hid.grow H18 g13
  replace H19 := Hid.grow H19 g13
  replace H21 := Hid.grow H21 g13
  replace H22 := Hid.grow H22 g13
  replace H24 := Hid.grow H24 g13
  replace H25 := Hid.grow H25 g13
  replace GG := GG.trans g13
  clear gW D HN HE hK e0 e1 e2 e3 e4 e5 e6 e7 o199 hB27 bB27
  go_upto_region 16 with fail
  rename_i hK
  obtain ⟨N, hN⟩ : ∃ N, w13.heap.size = N := ⟨_, rfl⟩
  have HN : Hid (∀ W, Frm (fun _ => False) w13 W → N ≤ W.heap.size) := Lib.hid fun W g => hN ▸ g.size
  have HE : Hid (w13.heap.size ≤ N) := Lib.hid (Nat.le_of_eq hN)
  have D : Frm (fun _ => False) w13 w13 := Frm.refl _ _
  clear hN
  refine wp_region_textR 3 1 [[], [0], []] kn16M (kn16R N) rfl rfl rfl rfl (by kernel_rfl) (by kernel_rfl) (fun val => ?_) ?_
  · try simp only [Act.put, List.setIfInBounds_toArray, List.set_cons_zero, List.set_cons_succ]
    refine RelO.next (k' := 1) rfl (fun W gW hF => ?_) ?_
    focus
      exact OpOK.val (u := .agg (vv (fC 8 0 0))) (by rfl) (by go_simp; first | rfl | simp [fC]) (fun W' _ => rfl)
    try simp only [Act.put, List.setIfInBounds_toArray, List.set_cons_zero, List.set_cons_succ]
    refine RelO.next (k' := 2) rfl (fun W gW hF => ?_) ?_
    focus
      obtain ⟨h0, _⟩ := hF
      have e0 : val 0 = .agg (vv (fC 8 0 0)) := h0 _ (Frm.refl _ W)
      try simp only [e0]
      try simp only [tupAt]
      exact OpOK.val (u := rg (fC 8 0 0) (.slice none 0 0)) (by rfl) (by first | (go_simp; done) | (go_simp; with_reducible rfl) | (go_simp; rfl)) (fun W' _ => rfl)
    try simp only [Act.put, List.setIfInBounds_toArray, List.set_cons_zero, List.set_cons_succ]
    refine RelO.next (k' := 3) rfl (fun W gW hF => ?_) ?_
    focus
      have hlt := HN.out W (D.trans gW)
      refine OpOK.made (W' := W.alloc (.cells rz 39)) (u := .pointer (some ⟨W.heap.size, 0, none⟩)) (by rfl) ?_ ((Frm.refl _ W).alloc _) (fun W2 g2 => ⟨W.heap.size, rfl, hlt, (Blk.alloc W _ _).keep g2 (fun h => h)⟩)
      first | (go_simp; done) | (go_simp; with_reducible rfl) | (go_simp; rfl)
    try simp only [Act.put, List.setIfInBounds_toArray, List.set_cons_zero, List.set_cons_succ]
    exact RelO.nil
  intro val W gW hF
  obtain ⟨h0, h1, h2, _⟩ := hF
  have e0 : val 0 = .agg (vv (fC 8 0 0)) := h0 _ (Frm.refl _ W)
  have e1 : val 1 = rg (fC 8 0 0) (.slice none 0 0) := h1 _ (Frm.refl _ W)
  have q2 : ∃ b, (val 2) = .pointer (some ⟨b, 0, none⟩) ∧ N ≤ b ∧ Blk W b 39 rz := h2 _ (Frm.refl _ W)
  obtain ⟨B29, e2, hB29, bB29⟩ := q2
  clear h0 h1 h2
  simp only [aO, Act.put, List.setIfInBounds_toArray, List.set_cons_zero, List.set_cons_succ, Nat.reduceAdd]
  try simp only [e2]
  try simp only [e1]
  try simp only [e0]
  try simp only [tupAt]
  refine tail_reg0 (w := w13) (fC 8 0 0) B29 rfl rfl rfl rfl rfl rfl (D.trans gW) (Nat.le_trans HE.out hB29) bB29 ?_
  intro w14 g14 b29
  try simp only [Act.put, List.setIfInBounds_toArray, List.set_cons_zero, List.set_cons_succ]
  refine hK _ _ ?_
  have F0 : Fill w B29 0 (.slice none 0 0) w14 := ⟨b29, OwnL.nil_ _, fun _ h => (by cases h), GG.trans g14, Nat.le_trans GG.size (Nat.le_trans HE.out hB29)⟩
  clear gW D HN HE hK b29 GG e0 e1 e2 hB29 bB29 H1 H2 H3 H5 H6 H8 H9 H11 H12 H14 H16 H18 H19 H21 H22 H24 H25 H27
  go_wp2_with fail
  go_loopw [30] (fun i wr => ∃ (q : Nat) (v : Value), q ≤ 8 ∧ i = .int .u32 ((q + 1 : Nat) : Int) ∧ Fill w B29 q v wr) (fun i _ => 9 - (intOf i).toNat)
  case atStart => exact ⟨0, _, Nat.zero_le _, rfl, F0⟩
  case round =>
    obtain ⟨q, vq, hq8, rfl, F1⟩ := hrel
    clear F0
    have HF := Lib.hid F1
    clear F1
    by_cases hq : q < 8
    · have hq32 : q + 1 < 4294967296 := by omega
      have hc : ((q + 1 : Nat) : Int) ≤ 8 := by omega
      have hc2 : (q : Int) + 1 ≤ 8 := by omega
      have hc3 : q + 1 ≤ 8 := by omega
      go_upto_region 20 with fail
      rename_i hK
      have D : Frm (fun _ => False) wr wr.drew := (Frm.refl _ _).drew
      refine wp_region_late 5 3 [] [[], [0], [], [2], [3]] kn20M (kn20R vq B29 q hq32) (by kernel_rfl) rfl rfl rfl (by kernel_rfl) (by kernel_rfl) (by kernel_rfl) (by kernel_rfl) rfl (by kernel_rfl) (by kernel_rfl) (by kernel_rfl) (by kernel_rfl) (fun val => ?_) ?_
      · try simp only [Act.put, List.setIfInBounds_toArray, List.set_cons_zero, List.set_cons_succ]
        refine RelO.next (k' := 1) rfl (fun W gW hF => ?_) ?_
        focus
          refine OpOK.val (u := .pointer (some ⟨B29, 8, none⟩)) (by rfl) ?_ (fun W' _ => rfl)
          try simp only [tupAt]
          first | (go_simp; done) | (go_simp; with_reducible rfl) | (go_simp; rfl)
        try simp only [Act.put, List.setIfInBounds_toArray, List.set_cons_zero, List.set_cons_succ]
        refine RelO.next (k' := 2) rfl (fun W gW hF => ?_) ?_
        focus
          obtain ⟨h0, _⟩ := hF
          have e0 : val 0 = .pointer (some ⟨B29, 8, none⟩) := h0 _ (Frm.refl _ W)
          try simp only [e0]
          try simp only [tupAt]
          have c8 := (HF.out.keep (D.trans gW)).blk.cell 8 rfl
          have a3 := Try.isAgg37
          have z3 := Try.sizeOf37
          exact OpOK.val (u := vq) (by rfl) (by first | (go_simp; done) | (go_simp; with_reducible rfl) | (go_simp; rfl)) (fun W' _ => rfl)
        try simp only [Act.put, List.setIfInBounds_toArray, List.set_cons_zero, List.set_cons_succ]
        refine RelO.next (k' := 3) rfl (fun W gW hF => ?_) ?_
        focus
          refine OpOK.val (u := .int .u32 ((q + 1 : Nat) : Int)) (by rfl) ?_ (fun W' _ => rfl)
          try simp only [tupAt]
          first | (go_simp; done) | (go_simp; with_reducible rfl) | (go_simp; rfl)
        try simp only [Act.put, List.setIfInBounds_toArray, List.set_cons_zero, List.set_cons_succ]
        refine RelO.next (k' := 4) rfl (fun W gW hF => ?_) ?_
        focus
          obtain ⟨h2, _⟩ := hF
          have e2 : val 2 = .int .u32 ((q + 1 : Nat) : Int) := h2 _ (Frm.refl _ W)
          try simp only [e2]
          try simp only [tupAt]
          refine OpOK.call (by rfl) ?_ ((sib_any 0 (q + 1) [118] W).mono ?_)
          · first | (go_simp; done) | (go_simp; with_reducible rfl) | (go_simp; rfl)
          · rintro e W1 ⟨he, g1⟩
            subst he
            exact ⟨_, rfl, g1, fun W2 _ => rfl⟩
        try simp only [Act.put, List.setIfInBounds_toArray, List.set_cons_zero, List.set_cons_succ]
        refine RelO.next (k' := 5) rfl (fun W gW hF => ?_) ?_
        focus
          obtain ⟨h3, _⟩ := hF
          have e3 : val 3 = .agg #[.int .u8 0, .int .u32 ((q + 1 : Nat) : Int), .string (bs [118])] := h3 _ (Frm.refl _ W)
          try simp only [e3]
          try simp only [tupAt]
          refine OpOK.made (W' := W.alloc (.cells #[.int .u8 0, .int .u32 ((q + 1 : Nat) : Int), .string (bs [118])] 76)) (u := .slice (some ⟨W.heap.size, 0, none⟩) 1 1) (by rfl) ?_ ((Frm.refl _ W).alloc _) (fun W2 g2 => ⟨_, rfl, (OwnL.sl (OwnL.one W (sV (q + 1) hq32))).keepF g2⟩)
          first | (go_simp; done) | (go_simp; with_reducible rfl) | (go_simp; rfl)
        try simp only [Act.put, List.setIfInBounds_toArray, List.set_cons_zero, List.set_cons_succ]
        exact RelO.nil
      intro val W gW hF
      obtain ⟨h0, h1, h2, h3, h4, _⟩ := hF
      have e0 : val 0 = .pointer (some ⟨B29, 8, none⟩) := h0 _ (Frm.refl _ W)
      have e1 : val 1 = vq := h1 _ (Frm.refl _ W)
      have e2 : val 2 = .int .u32 ((q + 1 : Nat) : Int) := h2 _ (Frm.refl _ W)
      have e3 : val 3 = .agg #[.int .u8 0, .int .u32 ((q + 1 : Nat) : Int), .string (bs [118])] := h3 _ (Frm.refl _ W)
      have q4 : ∃ x, (val 4) = x ∧ SL W x [sV (q + 1) hq32] := h4 _ (Frm.refl _ W)
      obtain ⟨x212, e4, o212⟩ := q4
      clear h0 h1 h2 h3 h4
      simp only [aO, Act.put, List.setIfInBounds_toArray, List.set_cons_zero, List.set_cons_succ, Nat.reduceAdd]
      try simp only [e4]
      try simp only [e3]
      try simp only [e2]
      try simp only [e1]
      try simp only [e0]
      try simp only [tupAt]
      refine tail_fill (w0 := w) B29 q hq32 hq vq x212 rfl rfl rfl rfl rfl rfl rfl rfl rfl rfl rfl rfl rfl rfl (HF.out.keep (D.trans gW)) o212 (fun v' W' => ?_) (fun v' => rfl) (fun v' => rfl) ?_
      · first | (go_simp; done) | (go_simp; with_reducible rfl) | (go_simp; rfl)
      intro v' w' F2
      try simp only [Act.put, List.setIfInBounds_toArray, List.set_cons_zero, List.set_cons_succ]
      refine hK _ _ ?_
      clear e0 e1 e2 e3 e4 o212 gW
      go_wp2_with fail
      go_roundw
      case rel => exact ⟨q + 1, v', by omega, by go_num, F2⟩
      case measure => simp [intOf]; omega
    · obtain rfl : q = 8 := by omega
      have F8 := HF.out
      clear HF hq hq8
      obtain ⟨w15, hwr⟩ : ∃ x, x = wr := ⟨_, rfl⟩
      subst hwr
      have H29 : Hid (∀ W, Frm (fun _ => False) w15 W → Blk W B29 39 (rgc (fC 8 0 0) vq) ∧ SL W vq (fullL 8)) := Lib.hid fun W g => ⟨F8.blk.keep g (fun h => h), F8.own.sl.keepF g⟩
      have GG := F8.frm
      clear F8
      go_upto_region 21 with fail
      rename_i hK
      obtain ⟨N, hN⟩ : ∃ N, w15.heap.size = N := ⟨_, rfl⟩
      have HN : Hid (∀ W, Frm (fun _ => False) w15 W → N ≤ W.heap.size) := Lib.hid fun W g => hN ▸ g.size
      have HE : Hid (w15.heap.size ≤ N) := Lib.hid (Nat.le_of_eq hN)
      have D : Frm (fun _ => False) w15 w15 := Frm.refl _ _
      clear hN
      refine wp_region_textR 8 3 [[], [0], [1], [1, 2], [1, 2], [1, 2], [], []] kn21M (kn21R vq N) rfl rfl rfl rfl (by kernel_rfl) (by kernel_rfl) (fun val => ?_) ?_
      · try simp only [Act.put, List.setIfInBounds_toArray, List.set_cons_zero, List.set_cons_succ]
        refine RelO.next (k' := 1) rfl (fun W gW hF => ?_) ?_
        focus
          exact OpOK.load (by rfl) _ rfl (by rfl) (load_reg (H29.out W (D.trans gW)).1) (fun W' _ => rfl)
        try simp only [Act.put, List.setIfInBounds_toArray, List.set_cons_zero, List.set_cons_succ]
        refine RelO.next (k' := 2) rfl (fun W gW hF => ?_) ?_
        focus
          obtain ⟨h0, _⟩ := hF
          have e0 : val 0 = rg (fC 8 0 0) vq := h0 _ (Frm.refl _ W)
          try simp only [e0]
          try simp only [tupAt]
          refine OpOK.call (by rfl) ?_ ((kw_v vq W (H29.out W (D.trans gW)).2).mono ?_)
          · first | (go_simp; done) | (go_simp; with_reducible rfl) | (go_simp; rfl)
          · rintro e W1 ⟨v', rfl, o', _, g'⟩
            exact ⟨_, rfl, g', fun W2 g2 => ⟨v', rfl, o'.keep g2 (fun _ _ h => h)⟩⟩
        try simp only [Act.put, List.setIfInBounds_toArray, List.set_cons_zero, List.set_cons_succ]
        refine RelO.next (k' := 3) rfl (fun W gW hF => ?_) ?_
        focus
          obtain ⟨h1, _⟩ := hF
          have q1 : ∃ v', (val 1) = .tuple #[rg (fun _ => 0) v', .agg (dv 0 0), .int .i64 7] ∧ OwnL W v' [] := h1 _ (Frm.refl _ W)
          obtain ⟨v217, e1, o217⟩ := q1
          try simp only [e1]
          try simp only [tupAt]
          refine OpOK.val (u := (val 1)) (by rfl) ?_ (fun W' _ => rfl)
          try simp only [e1]
          try simp only [tupAt]
          first | (go_simp; done) | (go_simp; with_reducible rfl) | (go_simp; rfl)
        try simp only [Act.put, List.setIfInBounds_toArray, List.set_cons_zero, List.set_cons_succ]
        refine RelO.next (k' := 4) rfl (fun W gW hF => ?_) ?_
        focus
          obtain ⟨h1, h2, _⟩ := hF
          have q1 : ∃ v', (val 1) = .tuple #[rg (fun _ => 0) v', .agg (dv 0 0), .int .i64 7] ∧ OwnL W v' [] := h1 _ (Frm.refl _ W)
          obtain ⟨v217, e1, o217⟩ := q1
          have e2 : val 2 = (val 1) := h2 _ (Frm.refl _ W)
          try simp only [e2]
          try simp only [e1]
          try simp only [tupAt]
          refine OpOK.val (u := tupAt (val 2) 0) (by rfl) ?_ (fun W' _ => rfl)
          try simp only [e2]
          try simp only [e1]
          try simp only [tupAt]
          first | (go_simp; done) | (go_simp; with_reducible rfl) | (go_simp; rfl)
        try simp only [Act.put, List.setIfInBounds_toArray, List.set_cons_zero, List.set_cons_succ]
        refine RelO.next (k' := 5) rfl (fun W gW hF => ?_) ?_
        focus
          obtain ⟨h1, h2, _⟩ := hF
          have q1 : ∃ v', (val 1) = .tuple #[rg (fun _ => 0) v', .agg (dv 0 0), .int .i64 7] ∧ OwnL W v' [] := h1 _ (Frm.refl _ W)
          obtain ⟨v217, e1, o217⟩ := q1
          have e2 : val 2 = (val 1) := h2 _ (Frm.refl _ W)
          try simp only [e2]
          try simp only [e1]
          try simp only [tupAt]
          refine OpOK.val (u := tupAt (val 2) 1) (by rfl) ?_ (fun W' _ => rfl)
          try simp only [e2]
          try simp only [e1]
          try simp only [tupAt]
          first | (go_simp; done) | (go_simp; with_reducible rfl) | (go_simp; rfl)
        try simp only [Act.put, List.setIfInBounds_toArray, List.set_cons_zero, List.set_cons_succ]
        refine RelO.next (k' := 6) rfl (fun W gW hF => ?_) ?_
        focus
          obtain ⟨h1, h2, _⟩ := hF
          have q1 : ∃ v', (val 1) = .tuple #[rg (fun _ => 0) v', .agg (dv 0 0), .int .i64 7] ∧ OwnL W v' [] := h1 _ (Frm.refl _ W)
          obtain ⟨v217, e1, o217⟩ := q1
          have e2 : val 2 = (val 1) := h2 _ (Frm.refl _ W)
          try simp only [e2]
          try simp only [e1]
          try simp only [tupAt]
          refine OpOK.val (u := tupAt (val 2) 2) (by rfl) ?_ (fun W' _ => rfl)
          try simp only [e2]
          try simp only [e1]
          try simp only [tupAt]
          first | (go_simp; done) | (go_simp; with_reducible rfl) | (go_simp; rfl)
        try simp only [Act.put, List.setIfInBounds_toArray, List.set_cons_zero, List.set_cons_succ]
        refine RelO.next (k' := 7) rfl (fun W gW hF => ?_) ?_
        focus
          have hlt := HN.out W (D.trans gW)
          refine OpOK.made (W' := W.alloc (.cells rz 39)) (u := .pointer (some ⟨W.heap.size, 0, none⟩)) (by rfl) ?_ ((Frm.refl _ W).alloc _) (fun W2 g2 => ⟨W.heap.size, rfl, hlt, (Blk.alloc W _ _).keep g2 (fun h => h)⟩)
          first | (go_simp; done) | (go_simp; with_reducible rfl) | (go_simp; rfl)
        try simp only [Act.put, List.setIfInBounds_toArray, List.set_cons_zero, List.set_cons_succ]
        refine RelO.next (k' := 8) rfl (fun W gW hF => ?_) ?_
        focus
          have hlt := HN.out W (D.trans gW)
          refine OpOK.made (W' := W.alloc (.cells dz 27)) (u := .pointer (some ⟨W.heap.size, 0, none⟩)) (by rfl) ?_ ((Frm.refl _ W).alloc _) (fun W2 g2 => ⟨W.heap.size, rfl, hlt, (Blk.alloc W _ _).keep g2 (fun h => h)⟩)
          first | (go_simp; done) | (go_simp; with_reducible rfl) | (go_simp; rfl)
        try simp only [Act.put, List.setIfInBounds_toArray, List.set_cons_zero, List.set_cons_succ]
        exact RelO.nil
      intro val W gW hF
      obtain ⟨h0, h1, h2, h3, h4, h5, h6, h7, _⟩ := hF
      have e0 : val 0 = rg (fC 8 0 0) vq := h0 _ (Frm.refl _ W)
      have q1 : ∃ v', (val 1) = .tuple #[rg (fun _ => 0) v', .agg (dv 0 0), .int .i64 7] ∧ OwnL W v' [] := h1 _ (Frm.refl _ W)
      obtain ⟨v217, e1, o217⟩ := q1
      have e2 : val 2 = (val 1) := h2 _ (Frm.refl _ W)
      have e3 : val 3 = tupAt (val 2) 0 := h3 _ (Frm.refl _ W)
      have e4 : val 4 = tupAt (val 2) 1 := h4 _ (Frm.refl _ W)
      have e5 : val 5 = tupAt (val 2) 2 := h5 _ (Frm.refl _ W)
      have q6 : ∃ b, (val 6) = .pointer (some ⟨b, 0, none⟩) ∧ N ≤ b ∧ Blk W b 39 rz := h6 _ (Frm.refl _ W)
      obtain ⟨B31, e6, hB31, bB31⟩ := q6
      have q7 : ∃ b, (val 7) = .pointer (some ⟨b, 0, none⟩) ∧ N ≤ b ∧ Blk W b 27 dz := h7 _ (Frm.refl _ W)
      obtain ⟨B32, e7, hB32, bB32⟩ := q7
      clear h0 h1 h2 h3 h4 h5 h6 h7
      simp only [aO, Act.put, List.setIfInBounds_toArray, List.set_cons_zero, List.set_cons_succ, Nat.reduceAdd]
      try simp only [e7]
      try simp only [e6]
      try simp only [e5]
      try simp only [e4]
      try simp only [e3]
      try simp only [e2]
      try simp only [e1]
      try simp only [e0]
      try simp only [tupAt]
      refine tail_reg3 (w := w15) (fun _ => 0) v217 [] B31 B32 0 0 7 rfl rfl rfl rfl rfl rfl rfl rfl rfl rfl rfl rfl rfl rfl rfl rfl rfl (D.trans gW) (Nat.le_trans HE.out hB31) (Nat.le_trans HE.out hB32) o217 bB31 bB32 ?_
      intro w16 g16 H31 H32
      try simp only [Act.put, List.setIfInBounds_toArray, List.set_cons_zero, List.set_cons_succ]
      refine hK _ _ ?_
      replace H29 := Hid.grow H29 g16
      replace GG := GG.trans g16
      clear gW D HN HE hK e0 e1 e2 e3 e4 e5 e6 e7 o217 hB31 bB31 hB32 bB32
      go_upto_region 22 with fail
      rename_i hK
      obtain ⟨N, hN⟩ : ∃ N, w16.heap.size = N := ⟨_, rfl⟩
      have HN : Hid (∀ W, Frm (fun _ => False) w16 W → N ≤ W.heap.size) := Lib.hid fun W g => hN ▸ g.size
      have HE : Hid (w16.heap.size ≤ N) := Lib.hid (Nat.le_of_eq hN)
      have D : Frm (fun _ => False) w16 w16.drew := (Frm.refl _ _).drew
      clear hN
      refine wp_region_late 10 3 [6, 7] [[], [], [1], [0, 2], [3], [3, 4], [3, 4], [3, 4], [], []] kn22M (kn22R vq N) (by kernel_rfl) rfl rfl rfl (by kernel_rfl) (by kernel_rfl) (by kernel_rfl) (by kernel_rfl) rfl (by kernel_rfl) (by kernel_rfl) (by kernel_rfl) (by kernel_rfl) (fun val => ?_) ?_
      · try simp only [Act.put, List.setIfInBounds_toArray, List.set_cons_zero, List.set_cons_succ]
        refine RelO.next (k' := 1) rfl (fun W gW hF => ?_) ?_
        focus
          exact OpOK.load (by rfl) _ rfl (by rfl) (load_reg (H29.out W (D.trans gW)).1) (fun W' _ => rfl)
        try simp only [Act.put, List.setIfInBounds_toArray, List.set_cons_zero, List.set_cons_succ]
        refine RelO.next (k' := 2) rfl (fun W gW hF => ?_) ?_
        focus
          refine OpOK.call (by rfl) ?_ ((dot_any 0 8 W).mono ?_)
          · first | (go_simp; done) | (go_simp; with_reducible rfl) | (go_simp; rfl)
          · rintro e W1 ⟨he, g1⟩
            subst he
            exact ⟨_, rfl, g1, fun W2 _ => rfl⟩
        try simp only [Act.put, List.setIfInBounds_toArray, List.set_cons_zero, List.set_cons_succ]
        refine RelO.next (k' := 3) rfl (fun W gW hF => ?_) ?_
        focus
          obtain ⟨h1, _⟩ := hF
          have e1 : val 1 = .agg (dv 0 8) := h1 _ (Frm.refl _ W)
          try simp only [e1]
          try simp only [tupAt]
          refine OpOK.made (W' := W.alloc (.cells #[.int .u8 0, .int .u32 8] 27)) (u := .slice (some ⟨W.heap.size, 0, none⟩) 1 1) (by rfl) ?_ ((Frm.refl _ W).alloc _) (fun W2 g2 => ⟨_, rfl, (DL.one W d8).keepF g2⟩)
          first | (go_simp; done) | (go_simp; with_reducible rfl) | (go_simp; rfl)
        try simp only [Act.put, List.setIfInBounds_toArray, List.set_cons_zero, List.set_cons_succ]
        refine RelO.next (k' := 4) rfl (fun W gW hF => ?_) ?_
        focus
          obtain ⟨h0, h2, _⟩ := hF
          have e0 : val 0 = rg (fC 8 0 0) vq := h0 _ (Frm.refl _ W)
          have q2 : ∃ x, (val 2) = x ∧ DL W x [d8] := h2 _ (Frm.refl _ W)
          obtain ⟨x224, e2, o224⟩ := q2
          try simp only [e2]
          try simp only [e0]
          try simp only [tupAt]
          refine OpOK.call (by rfl) ?_ ((kw_w vq x224 W (H29.out W (D.trans gW)).2 o224).mono ?_)
          · first | (go_simp; done) | (go_simp; with_reducible rfl) | (go_simp; rfl)
          · rintro e W1 ⟨v', rfl, o', _, g'⟩
            exact ⟨_, rfl, g', fun W2 g2 => ⟨v', rfl, o'.keep g2 (fun _ _ h => h)⟩⟩
        try simp only [Act.put, List.setIfInBounds_toArray, List.set_cons_zero, List.set_cons_succ]
        refine RelO.next (k' := 5) rfl (fun W gW hF => ?_) ?_
        focus
          obtain ⟨h3, _⟩ := hF
          have q3 : ∃ v', (val 3) = .tuple #[rg (fC 8 9 0) v', .agg (dv 1 9), .int .i64 0] ∧ OwnL W v' (fullL 7 ++ [sW]) := h3 _ (Frm.refl _ W)
          obtain ⟨v225, e3, o225⟩ := q3
          try simp only [e3]
          try simp only [tupAt]
          refine OpOK.val (u := (val 3)) (by rfl) ?_ (fun W' _ => rfl)
          try simp only [e3]
          try simp only [tupAt]
          first | (go_simp; done) | (go_simp; with_reducible rfl) | (go_simp; rfl)
        try simp only [Act.put, List.setIfInBounds_toArray, List.set_cons_zero, List.set_cons_succ]
        refine RelO.next (k' := 6) rfl (fun W gW hF => ?_) ?_
        focus
          obtain ⟨h3, h4, _⟩ := hF
          have q3 : ∃ v', (val 3) = .tuple #[rg (fC 8 9 0) v', .agg (dv 1 9), .int .i64 0] ∧ OwnL W v' (fullL 7 ++ [sW]) := h3 _ (Frm.refl _ W)
          obtain ⟨v225, e3, o225⟩ := q3
          have e4 : val 4 = (val 3) := h4 _ (Frm.refl _ W)
          try simp only [e4]
          try simp only [e3]
          try simp only [tupAt]
          refine OpOK.val (u := tupAt (val 4) 0) (by rfl) ?_ (fun W' _ => rfl)
          try simp only [e4]
          try simp only [e3]
          try simp only [tupAt]
          first | (go_simp; done) | (go_simp; with_reducible rfl) | (go_simp; rfl)
        try simp only [Act.put, List.setIfInBounds_toArray, List.set_cons_zero, List.set_cons_succ]
        refine RelO.next (k' := 7) rfl (fun W gW hF => ?_) ?_
        focus
          obtain ⟨h3, h4, _⟩ := hF
          have q3 : ∃ v', (val 3) = .tuple #[rg (fC 8 9 0) v', .agg (dv 1 9), .int .i64 0] ∧ OwnL W v' (fullL 7 ++ [sW]) := h3 _ (Frm.refl _ W)
          obtain ⟨v225, e3, o225⟩ := q3
          have e4 : val 4 = (val 3) := h4 _ (Frm.refl _ W)
          try simp only [e4]
          try simp only [e3]
          try simp only [tupAt]
          refine OpOK.val (u := tupAt (val 4) 1) (by rfl) ?_ (fun W' _ => rfl)
          try simp only [e4]
          try simp only [e3]
          try simp only [tupAt]
          first | (go_simp; done) | (go_simp; with_reducible rfl) | (go_simp; rfl)
        try simp only [Act.put, List.setIfInBounds_toArray, List.set_cons_zero, List.set_cons_succ]
        refine RelO.next (k' := 8) rfl (fun W gW hF => ?_) ?_
        focus
          obtain ⟨h3, h4, _⟩ := hF
          have q3 : ∃ v', (val 3) = .tuple #[rg (fC 8 9 0) v', .agg (dv 1 9), .int .i64 0] ∧ OwnL W v' (fullL 7 ++ [sW]) := h3 _ (Frm.refl _ W)
          obtain ⟨v225, e3, o225⟩ := q3
          have e4 : val 4 = (val 3) := h4 _ (Frm.refl _ W)
          try simp only [e4]
          try simp only [e3]
          try simp only [tupAt]
          refine OpOK.val (u := tupAt (val 4) 2) (by rfl) ?_ (fun W' _ => rfl)
          try simp only [e4]
          try simp only [e3]
          try simp only [tupAt]
          first | (go_simp; done) | (go_simp; with_reducible rfl) | (go_simp; rfl)
        try simp only [Act.put, List.setIfInBounds_toArray, List.set_cons_zero, List.set_cons_succ]
        refine RelO.next (k' := 9) rfl (fun W gW hF => ?_) ?_
        focus
          have hlt := HN.out W (D.trans gW)
          refine OpOK.made (W' := W.alloc (.cells rz 39)) (u := .pointer (some ⟨W.heap.size, 0, none⟩)) (by rfl) ?_ ((Frm.refl _ W).alloc _) (fun W2 g2 => ⟨W.heap.size, rfl, hlt, (Blk.alloc W _ _).keep g2 (fun h => h)⟩)
          first | (go_simp; done) | (go_simp; with_reducible rfl) | (go_simp; rfl)
        try simp only [Act.put, List.setIfInBounds_toArray, List.set_cons_zero, List.set_cons_succ]
        refine RelO.next (k' := 10) rfl (fun W gW hF => ?_) ?_
        focus
          have hlt := HN.out W (D.trans gW)
          refine OpOK.made (W' := W.alloc (.cells dz 27)) (u := .pointer (some ⟨W.heap.size, 0, none⟩)) (by rfl) ?_ ((Frm.refl _ W).alloc _) (fun W2 g2 => ⟨W.heap.size, rfl, hlt, (Blk.alloc W _ _).keep g2 (fun h => h)⟩)
          first | (go_simp; done) | (go_simp; with_reducible rfl) | (go_simp; rfl)
        try simp only [Act.put, List.setIfInBounds_toArray, List.set_cons_zero, List.set_cons_succ]
        exact RelO.nil
      intro val W gW hF
      obtain ⟨h0, h1, h2, h3, h4, h5, h6, h7, h8, h9, _⟩ := hF
      have e0 : val 0 = rg (fC 8 0 0) vq := h0 _ (Frm.refl _ W)
      have e1 : val 1 = .agg (dv 0 8) := h1 _ (Frm.refl _ W)
      have q2 : ∃ x, (val 2) = x ∧ DL W x [d8] := h2 _ (Frm.refl _ W)
      obtain ⟨x224, e2, o224⟩ := q2
      have q3 : ∃ v', (val 3) = .tuple #[rg (fC 8 9 0) v', .agg (dv 1 9), .int .i64 0] ∧ OwnL W v' (fullL 7 ++ [sW]) := h3 _ (Frm.refl _ W)
      obtain ⟨v225, e3, o225⟩ := q3
      have e4 : val 4 = (val 3) := h4 _ (Frm.refl _ W)
      have e5 : val 5 = tupAt (val 4) 0 := h5 _ (Frm.refl _ W)
      have e6 : val 6 = tupAt (val 4) 1 := h6 _ (Frm.refl _ W)
      have e7 : val 7 = tupAt (val 4) 2 := h7 _ (Frm.refl _ W)
      have q8 : ∃ b, (val 8) = .pointer (some ⟨b, 0, none⟩) ∧ N ≤ b ∧ Blk W b 39 rz := h8 _ (Frm.refl _ W)
      obtain ⟨B34, e8, hB34, bB34⟩ := q8
      have q9 : ∃ b, (val 9) = .pointer (some ⟨b, 0, none⟩) ∧ N ≤ b ∧ Blk W b 27 dz := h9 _ (Frm.refl _ W)
      obtain ⟨B35, e9, hB35, bB35⟩ := q9
      clear h0 h1 h2 h3 h4 h5 h6 h7 h8 h9
      simp only [aO, Act.put, List.setIfInBounds_toArray, List.set_cons_zero, List.set_cons_succ, Nat.reduceAdd]
      try simp only [e9]
      try simp only [e8]
      try simp only [e7]
      try simp only [e6]
      try simp only [e5]
      try simp only [e4]
      try simp only [e3]
      try simp only [e2]
      try simp only [e1]
      try simp only [e0]
      try simp only [tupAt]
      refine tail_reg3 (w := w16) (fC 8 9 0) v225 (fullL 7 ++ [sW]) B34 B35 1 9 0 rfl rfl rfl rfl rfl rfl rfl rfl rfl rfl rfl rfl rfl rfl rfl rfl rfl (D.trans gW) (Nat.le_trans HE.out hB34) (Nat.le_trans HE.out hB35) o225 bB34 bB35 ?_
      intro w17 g17 H34 H35
      try simp only [Act.put, List.setIfInBounds_toArray, List.set_cons_zero, List.set_cons_succ]
      refine hK _ _ ?_
      replace H29 := Hid.grow H29 g17
      replace H31 := Hid.grow H31 g17
      replace H32 := Hid.grow H32 g17
      replace GG := GG.trans g17
      clear gW D HN HE hK e0 e1 e2 e3 e4 e5 e6 e7 e8 e9 o224 o225 hB34 bB34 hB35 bB35
      go_upto_region 23 with fail
      rename_i hK
      obtain ⟨N, hN⟩ : ∃ N, w17.heap.size = N := ⟨_, rfl⟩
      have HN : Hid (∀ W, Frm (fun _ => False) w17 W → N ≤ W.heap.size) := Lib.hid fun W g => hN ▸ g.size
      have HE : Hid (w17.heap.size ≤ N) := Lib.hid (Nat.le_of_eq hN)
      have D : Frm (fun _ => False) w17 w17.drew := (Frm.refl _ _).drew
      clear hN
      refine wp_region_late 10 2 [8] [[], [], [], [2], [1, 3], [0, 4], [5], [5, 6], [5, 6], []] kn23M (kn23R vq N) (by kernel_rfl) rfl rfl rfl (by kernel_rfl) (by kernel_rfl) (by kernel_rfl) (by kernel_rfl) rfl (by kernel_rfl) (by kernel_rfl) (by kernel_rfl) (by kernel_rfl) (fun val => ?_) ?_
      · try simp only [Act.put, List.setIfInBounds_toArray, List.set_cons_zero, List.set_cons_succ]
        refine RelO.next (k' := 1) rfl (fun W gW hF => ?_) ?_
        focus
          exact OpOK.load (by rfl) _ rfl (by rfl) (load_reg (H29.out W (D.trans gW)).1) (fun W' _ => rfl)
        try simp only [Act.put, List.setIfInBounds_toArray, List.set_cons_zero, List.set_cons_succ]
        refine RelO.next (k' := 2) rfl (fun W gW hF => ?_) ?_
        focus
          exact OpOK.val (u := .agg (vv (fC 0 9 0))) (by rfl) (by go_simp; first | rfl | simp [fC]) (fun W' _ => rfl)
        try simp only [Act.put, List.setIfInBounds_toArray, List.set_cons_zero, List.set_cons_succ]
        refine RelO.next (k' := 3) rfl (fun W gW hF => ?_) ?_
        focus
          refine OpOK.call (by rfl) ?_ ((sib_any 1 9 [98] W).mono ?_)
          · first | (go_simp; done) | (go_simp; with_reducible rfl) | (go_simp; rfl)
          · rintro e W1 ⟨he, g1⟩
            subst he
            exact ⟨_, rfl, g1, fun W2 _ => rfl⟩
        try simp only [Act.put, List.setIfInBounds_toArray, List.set_cons_zero, List.set_cons_succ]
        refine RelO.next (k' := 4) rfl (fun W gW hF => ?_) ?_
        focus
          obtain ⟨h2, _⟩ := hF
          have e2 : val 2 = .agg #[.int .u8 1, .int .u32 9, .string (bs [98])] := h2 _ (Frm.refl _ W)
          try simp only [e2]
          try simp only [tupAt]
          refine OpOK.made (W' := W.alloc (.cells #[.int .u8 1, .int .u32 9, .string (bs [98])] 76)) (u := .slice (some ⟨W.heap.size, 0, none⟩) 1 1) (by rfl) ?_ ((Frm.refl _ W).alloc _) (fun W2 g2 => ⟨_, rfl, (OwnL.sl (OwnL.one W sW)).keepF g2⟩)
          first | (go_simp; done) | (go_simp; with_reducible rfl) | (go_simp; rfl)
        try simp only [Act.put, List.setIfInBounds_toArray, List.set_cons_zero, List.set_cons_succ]
        refine RelO.next (k' := 5) rfl (fun W gW hF => ?_) ?_
        focus
          obtain ⟨h1, h3, _⟩ := hF
          have e1 : val 1 = .agg (vv (fC 0 9 0)) := h1 _ (Frm.refl _ W)
          have q3 : ∃ b, (val 3) = .slice (some ⟨b, 0, none⟩) 1 1 ∧ SL W (.slice (some ⟨b, 0, none⟩) 1 1) [sW] := h3 _ (Frm.refl _ W)
          obtain ⟨b233, e3, o233⟩ := q3
          try simp only [e3]
          try simp only [e1]
          try simp only [tupAt]
          exact OpOK.val (u := rg (fC 0 9 0) (.slice (some ⟨b233, 0, none⟩) 1 1)) (by rfl) (by first | (go_simp; done) | (go_simp; with_reducible rfl) | (go_simp; rfl)) (fun W2 g2 => ⟨_, rfl, o233.keepF g2⟩)
        try simp only [Act.put, List.setIfInBounds_toArray, List.set_cons_zero, List.set_cons_succ]
        refine RelO.next (k' := 6) rfl (fun W gW hF => ?_) ?_
        focus
          obtain ⟨h0, h4, _⟩ := hF
          have e0 : val 0 = rg (fC 8 0 0) vq := h0 _ (Frm.refl _ W)
          have q4 : ∃ x, (val 4) = rg (fC 0 9 0) x ∧ SL W x [sW] := h4 _ (Frm.refl _ W)
          obtain ⟨x234, e4, o234⟩ := q4
          try simp only [e4]
          try simp only [e0]
          try simp only [tupAt]
          refine OpOK.call (by rfl) ?_ ((sjoin_any (fC 8 0 0) (fC 0 9 0) vq x234 (fullL 8) [sW] W (fC_fit (by decide) (by decide) (by decide)) (fC_fit (by decide) (by decide) (by decide)) (H29.out W (D.trans gW)).2 o234 (by rw [fullL_len]; decide) (by decide)).mono ?_)
          · first | (go_simp; done) | (go_simp; with_reducible rfl) | (go_simp; rfl)
          · rintro e W1 ⟨v', f', l', e0, rfl, o', _, g', hj⟩
            obtain ⟨rfl, rfl, rfl⟩ := join_z hj
            exact ⟨_, rfl, g', fun W2 g2 => ⟨v', rfl, o'.keep g2 (fun _ _ h => h)⟩⟩
        try simp only [Act.put, List.setIfInBounds_toArray, List.set_cons_zero, List.set_cons_succ]
        refine RelO.next (k' := 7) rfl (fun W gW hF => ?_) ?_
        focus
          obtain ⟨h5, _⟩ := hF
          have q5 : ∃ v', (val 5) = .tuple #[rg (fun _ => 0) v', .int .i64 7] ∧ OwnL W v' [] := h5 _ (Frm.refl _ W)
          obtain ⟨v235, e5, o235⟩ := q5
          try simp only [e5]
          try simp only [tupAt]
          refine OpOK.val (u := (val 5)) (by rfl) ?_ (fun W' _ => rfl)
          try simp only [e5]
          try simp only [tupAt]
          first | (go_simp; done) | (go_simp; with_reducible rfl) | (go_simp; rfl)
        try simp only [Act.put, List.setIfInBounds_toArray, List.set_cons_zero, List.set_cons_succ]
        refine RelO.next (k' := 8) rfl (fun W gW hF => ?_) ?_
        focus
          obtain ⟨h5, h6, _⟩ := hF
          have q5 : ∃ v', (val 5) = .tuple #[rg (fun _ => 0) v', .int .i64 7] ∧ OwnL W v' [] := h5 _ (Frm.refl _ W)
          obtain ⟨v235, e5, o235⟩ := q5
          have e6 : val 6 = (val 5) := h6 _ (Frm.refl _ W)
          try simp only [e6]
          try simp only [e5]
          try simp only [tupAt]
          refine OpOK.val (u := tupAt (val 6) 0) (by rfl) ?_ (fun W' _ => rfl)
          try simp only [e6]
          try simp only [e5]
          try simp only [tupAt]
          first | (go_simp; done) | (go_simp; with_reducible rfl) | (go_simp; rfl)
        try simp only [Act.put, List.setIfInBounds_toArray, List.set_cons_zero, List.set_cons_succ]
        refine RelO.next (k' := 9) rfl (fun W gW hF => ?_) ?_
        focus
          obtain ⟨h5, h6, _⟩ := hF
          have q5 : ∃ v', (val 5) = .tuple #[rg (fun _ => 0) v', .int .i64 7] ∧ OwnL W v' [] := h5 _ (Frm.refl _ W)
          obtain ⟨v235, e5, o235⟩ := q5
          have e6 : val 6 = (val 5) := h6 _ (Frm.refl _ W)
          try simp only [e6]
          try simp only [e5]
          try simp only [tupAt]
          refine OpOK.val (u := tupAt (val 6) 1) (by rfl) ?_ (fun W' _ => rfl)
          try simp only [e6]
          try simp only [e5]
          try simp only [tupAt]
          first | (go_simp; done) | (go_simp; with_reducible rfl) | (go_simp; rfl)
        try simp only [Act.put, List.setIfInBounds_toArray, List.set_cons_zero, List.set_cons_succ]
        refine RelO.next (k' := 10) rfl (fun W gW hF => ?_) ?_
        focus
          have hlt := HN.out W (D.trans gW)
          refine OpOK.made (W' := W.alloc (.cells rz 39)) (u := .pointer (some ⟨W.heap.size, 0, none⟩)) (by rfl) ?_ ((Frm.refl _ W).alloc _) (fun W2 g2 => ⟨W.heap.size, rfl, hlt, (Blk.alloc W _ _).keep g2 (fun h => h)⟩)
          first | (go_simp; done) | (go_simp; with_reducible rfl) | (go_simp; rfl)
        try simp only [Act.put, List.setIfInBounds_toArray, List.set_cons_zero, List.set_cons_succ]
        exact RelO.nil
      intro val W gW hF
      obtain ⟨h0, h1, h2, h3, h4, h5, h6, h7, h8, h9, _⟩ := hF
      have e0 : val 0 = rg (fC 8 0 0) vq := h0 _ (Frm.refl _ W)
      have e1 : val 1 = .agg (vv (fC 0 9 0)) := h1 _ (Frm.refl _ W)
      have e2 : val 2 = .agg #[.int .u8 1, .int .u32 9, .string (bs [98])] := h2 _ (Frm.refl _ W)
      have q3 : ∃ b, (val 3) = .slice (some ⟨b, 0, none⟩) 1 1 ∧ SL W (.slice (some ⟨b, 0, none⟩) 1 1) [sW] := h3 _ (Frm.refl _ W)
      obtain ⟨b233, e3, o233⟩ := q3
      have q4 : ∃ x, (val 4) = rg (fC 0 9 0) x ∧ SL W x [sW] := h4 _ (Frm.refl _ W)
      obtain ⟨x234, e4, o234⟩ := q4
      have q5 : ∃ v', (val 5) = .tuple #[rg (fun _ => 0) v', .int .i64 7] ∧ OwnL W v' [] := h5 _ (Frm.refl _ W)
      obtain ⟨v235, e5, o235⟩ := q5
      have e6 : val 6 = (val 5) := h6 _ (Frm.refl _ W)
      have e7 : val 7 = tupAt (val 6) 0 := h7 _ (Frm.refl _ W)
      have e8 : val 8 = tupAt (val 6) 1 := h8 _ (Frm.refl _ W)
      have q9 : ∃ b, (val 9) = .pointer (some ⟨b, 0, none⟩) ∧ N ≤ b ∧ Blk W b 39 rz := h9 _ (Frm.refl _ W)
      obtain ⟨B37, e9, hB37, bB37⟩ := q9
      clear h0 h1 h2 h3 h4 h5 h6 h7 h8 h9
      simp only [aO, Act.put, List.setIfInBounds_toArray, List.set_cons_zero, List.set_cons_succ, Nat.reduceAdd]
      try simp only [e9]
      try simp only [e8]
      try simp only [e7]
      try simp only [e6]
      try simp only [e5]
      try simp only [e4]
      try simp only [e3]
      try simp only [e2]
      try simp only [e1]
      try simp only [e0]
      try simp only [tupAt]
      refine tail_reg1 (w := w17) (fun _ => 0) v235 [] B37 7 rfl rfl rfl rfl rfl rfl rfl rfl rfl rfl rfl (D.trans gW) (Nat.le_trans HE.out hB37) o235 bB37 ?_
      intro w18 g18 H37
      try simp only [Act.put, List.setIfInBounds_toArray, List.set_cons_zero, List.set_cons_succ]
      refine hK _ _ ?_
      replace H29 := Hid.grow H29 g18
      replace H31 := Hid.grow H31 g18
      replace H32 := Hid.grow H32 g18
      replace H34 := Hid.grow H34 g18
      replace H35 := Hid.grow H35 g18
      replace GG := GG.trans g18
      clear gW D HN HE hK e0 e1 e2 e3 e4 e5 e6 e7 e8 e9 o233 o234 o235 hB37 bB37
      obtain ⟨a34, c34, e34, _, _⟩ := (H34.out _ (Frm.refl _ w18)).2.slice
      rw [len_w] at e34
      subst e34
      go_upto_region 24 with fail
      rename_i hK
      obtain ⟨N, hN⟩ : ∃ N, w18.heap.size = N := ⟨_, rfl⟩
      have HN : Hid (∀ W, Frm (fun _ => False) w18 W → N ≤ W.heap.size) := Lib.hid fun W g => hN ▸ g.size
      have HE : Hid (w18.heap.size ≤ N) := Lib.hid (Nat.le_of_eq hN)
      have D : Frm (fun _ => False) w18 w18 := Frm.refl _ _
      clear hN
      refine wp_region_textR 41 0 [[], [0], [1], [2], [2, 3], [2, 4], [5], [6], [6, 7], [6, 8], [9], [10], [10, 11], [10, 12], [13], [14], [14, 15], [14, 16], [14, 17], [18], [19], [19, 20], [19, 21], [22], [23], [23, 24], [23, 25], [26], [27], [27, 28], [27, 29], [27, 30], [27, 31], [32], [33], [33, 34], [33, 35], [36], [37], [37, 38], [39]] kn24M (kn24R vq a34 c34 B34) rfl rfl rfl rfl (by kernel_rfl) (by kernel_rfl) (fun val => ?_) ?_
      · try dsimp only
        refine RelO.next (k' := 1) rfl (fun W gW hF => ?_) ?_
        focus
          refine OpOK.val (u := .int .i64 2) (by rfl) ?_ (fun W' _ => rfl)
          try simp only [tupAt]
          first | (go_simp; done) | (go_simp; with_reducible rfl) | (go_simp; rfl)
        try simp only [Act.put, List.setIfInBounds_toArray, List.set_cons_zero, List.set_cons_succ]
        refine RelO.next (k' := 2) rfl (fun W gW hF => ?_) ?_
        focus
          obtain ⟨h0, _⟩ := hF
          have e0 : val 0 = .int .i64 2 := h0 _ (Frm.refl _ W)
          try simp only [e0]
          try simp only [tupAt]
          refine OpOK.val (u := .bool true) (by rfl) ?_ (fun W' _ => rfl)
          try simp only [e0]
          try simp only [tupAt]
          first | (go_simp; done) | (go_simp; with_reducible rfl) | (go_simp; rfl)
        try simp only [Act.put, List.setIfInBounds_toArray, List.set_cons_zero, List.set_cons_succ]
        refine RelO.next (k' := 3) rfl (fun W gW hF => ?_) ?_
        focus
          obtain ⟨h1, _⟩ := hF
          have e1 : val 1 = .bool true := h1 _ (Frm.refl _ W)
          try simp only [e1]
          try simp only [tupAt]
          refine OpOK.val (u := .bool true) (by rfl) ?_ (fun W' _ => rfl)
          try simp only [e1]
          try simp only [tupAt]
          first | (go_simp; done) | (go_simp; with_reducible rfl) | (go_simp; rfl)
        try simp only [Act.put, List.setIfInBounds_toArray, List.set_cons_zero, List.set_cons_succ]
        refine RelO.next (k' := 4) rfl (fun W gW hF => ?_) ?_
        focus
          obtain ⟨h2, _⟩ := hF
          have e2 : val 2 = .bool true := h2 _ (Frm.refl _ W)
          try simp only [e2]
          try simp only [tupAt]
          refine OpOK.val (u := .int .i64 12) (by rfl) ?_ (fun W' _ => rfl)
          try simp only [e2]
          try simp only [tupAt]
          first | (go_simp; done) | (go_simp; with_reducible rfl) | (go_simp; rfl)
        try simp only [Act.put, List.setIfInBounds_toArray, List.set_cons_zero, List.set_cons_succ]
        refine RelO.next (k' := 5) rfl (fun W gW hF => ?_) ?_
        focus
          obtain ⟨h2, h3, _⟩ := hF
          have e2 : val 2 = .bool true := h2 _ (Frm.refl _ W)
          have e3 : val 3 = .int .i64 12 := h3 _ (Frm.refl _ W)
          try simp only [e3]
          try simp only [e2]
          try simp only [tupAt]
          refine OpOK.val (u := .bool true) (by rfl) ?_ (fun W' _ => rfl)
          try simp only [e3]
          try simp only [e2]
          try simp only [tupAt]
          first | (go_simp; done) | (go_simp; with_reducible rfl) | (go_simp; rfl)
        try simp only [Act.put, List.setIfInBounds_toArray, List.set_cons_zero, List.set_cons_succ]
        refine RelO.next (k' := 6) rfl (fun W gW hF => ?_) ?_
        focus
          obtain ⟨h2, h4, _⟩ := hF
          have e2 : val 2 = .bool true := h2 _ (Frm.refl _ W)
          have e4 : val 4 = .bool true := h4 _ (Frm.refl _ W)
          try simp only [e4]
          try simp only [e2]
          try simp only [tupAt]
          refine OpOK.val (u := .bool true) (by rfl) ?_ (fun W' _ => rfl)
          try simp only [e4]
          try simp only [e2]
          try simp only [tupAt]
          first | (go_simp; done) | (go_simp; with_reducible rfl) | (go_simp; rfl)
        try simp only [Act.put, List.setIfInBounds_toArray, List.set_cons_zero, List.set_cons_succ]
        refine RelO.next (k' := 7) rfl (fun W gW hF => ?_) ?_
        focus
          obtain ⟨h5, _⟩ := hF
          have e5 : val 5 = .bool true := h5 _ (Frm.refl _ W)
          try simp only [e5]
          try simp only [tupAt]
          refine OpOK.val (u := .bool true) (by rfl) ?_ (fun W' _ => rfl)
          try simp only [e5]
          try simp only [tupAt]
          first | (go_simp; done) | (go_simp; with_reducible rfl) | (go_simp; rfl)
        try simp only [Act.put, List.setIfInBounds_toArray, List.set_cons_zero, List.set_cons_succ]
        refine RelO.next (k' := 8) rfl (fun W gW hF => ?_) ?_
        focus
          obtain ⟨h6, _⟩ := hF
          have e6 : val 6 = .bool true := h6 _ (Frm.refl _ W)
          try simp only [e6]
          try simp only [tupAt]
          refine OpOK.val (u := .int .i64 4) (by rfl) ?_ (fun W' _ => rfl)
          try simp only [e6]
          try simp only [tupAt]
          first | (go_simp; done) | (go_simp; with_reducible rfl) | (go_simp; rfl)
        try simp only [Act.put, List.setIfInBounds_toArray, List.set_cons_zero, List.set_cons_succ]
        refine RelO.next (k' := 9) rfl (fun W gW hF => ?_) ?_
        focus
          obtain ⟨h6, h7, _⟩ := hF
          have e6 : val 6 = .bool true := h6 _ (Frm.refl _ W)
          have e7 : val 7 = .int .i64 4 := h7 _ (Frm.refl _ W)
          try simp only [e7]
          try simp only [e6]
          try simp only [tupAt]
          refine OpOK.val (u := .bool true) (by rfl) ?_ (fun W' _ => rfl)
          try simp only [e7]
          try simp only [e6]
          try simp only [tupAt]
          first | (go_simp; done) | (go_simp; with_reducible rfl) | (go_simp; rfl)
        try simp only [Act.put, List.setIfInBounds_toArray, List.set_cons_zero, List.set_cons_succ]
        refine RelO.next (k' := 10) rfl (fun W gW hF => ?_) ?_
        focus
          obtain ⟨h6, h8, _⟩ := hF
          have e6 : val 6 = .bool true := h6 _ (Frm.refl _ W)
          have e8 : val 8 = .bool true := h8 _ (Frm.refl _ W)
          try simp only [e8]
          try simp only [e6]
          try simp only [tupAt]
          refine OpOK.val (u := .bool true) (by rfl) ?_ (fun W' _ => rfl)
          try simp only [e8]
          try simp only [e6]
          try simp only [tupAt]
          first | (go_simp; done) | (go_simp; with_reducible rfl) | (go_simp; rfl)
        try simp only [Act.put, List.setIfInBounds_toArray, List.set_cons_zero, List.set_cons_succ]
        refine RelO.next (k' := 11) rfl (fun W gW hF => ?_) ?_
        focus
          obtain ⟨h9, _⟩ := hF
          have e9 : val 9 = .bool true := h9 _ (Frm.refl _ W)
          try simp only [e9]
          try simp only [tupAt]
          refine OpOK.val (u := .bool true) (by rfl) ?_ (fun W' _ => rfl)
          try simp only [e9]
          try simp only [tupAt]
          first | (go_simp; done) | (go_simp; with_reducible rfl) | (go_simp; rfl)
        try simp only [Act.put, List.setIfInBounds_toArray, List.set_cons_zero, List.set_cons_succ]
        refine RelO.next (k' := 12) rfl (fun W gW hF => ?_) ?_
        focus
          obtain ⟨h10, _⟩ := hF
          have e10 : val 10 = .bool true := h10 _ (Frm.refl _ W)
          try simp only [e10]
          try simp only [tupAt]
          refine OpOK.val (u := .int .i64 4) (by rfl) ?_ (fun W' _ => rfl)
          try simp only [e10]
          try simp only [tupAt]
          first | (go_simp; done) | (go_simp; with_reducible rfl) | (go_simp; rfl)
        try simp only [Act.put, List.setIfInBounds_toArray, List.set_cons_zero, List.set_cons_succ]
        refine RelO.next (k' := 13) rfl (fun W gW hF => ?_) ?_
        focus
          obtain ⟨h10, h11, _⟩ := hF
          have e10 : val 10 = .bool true := h10 _ (Frm.refl _ W)
          have e11 : val 11 = .int .i64 4 := h11 _ (Frm.refl _ W)
          try simp only [e11]
          try simp only [e10]
          try simp only [tupAt]
          refine OpOK.val (u := .bool true) (by rfl) ?_ (fun W' _ => rfl)
          try simp only [e11]
          try simp only [e10]
          try simp only [tupAt]
          first | (go_simp; done) | (go_simp; with_reducible rfl) | (go_simp; rfl)
        try simp only [Act.put, List.setIfInBounds_toArray, List.set_cons_zero, List.set_cons_succ]
        refine RelO.next (k' := 14) rfl (fun W gW hF => ?_) ?_
        focus
          obtain ⟨h10, h12, _⟩ := hF
          have e10 : val 10 = .bool true := h10 _ (Frm.refl _ W)
          have e12 : val 12 = .bool true := h12 _ (Frm.refl _ W)
          try simp only [e12]
          try simp only [e10]
          try simp only [tupAt]
          refine OpOK.val (u := .bool true) (by rfl) ?_ (fun W' _ => rfl)
          try simp only [e12]
          try simp only [e10]
          try simp only [tupAt]
          first | (go_simp; done) | (go_simp; with_reducible rfl) | (go_simp; rfl)
        try simp only [Act.put, List.setIfInBounds_toArray, List.set_cons_zero, List.set_cons_succ]
        refine RelO.next (k' := 15) rfl (fun W gW hF => ?_) ?_
        focus
          obtain ⟨h13, _⟩ := hF
          have e13 : val 13 = .bool true := h13 _ (Frm.refl _ W)
          try simp only [e13]
          try simp only [tupAt]
          refine OpOK.val (u := .bool true) (by rfl) ?_ (fun W' _ => rfl)
          try simp only [e13]
          try simp only [tupAt]
          first | (go_simp; done) | (go_simp; with_reducible rfl) | (go_simp; rfl)
        try simp only [Act.put, List.setIfInBounds_toArray, List.set_cons_zero, List.set_cons_succ]
        refine RelO.next (k' := 16) rfl (fun W gW hF => ?_) ?_
        focus
          obtain ⟨h14, _⟩ := hF
          have e14 : val 14 = .bool true := h14 _ (Frm.refl _ W)
          try simp only [e14]
          try simp only [tupAt]
          exact OpOK.load (by rfl) _ rfl (by rfl) (load_reg (H29.out W (D.trans gW)).1) (fun W' _ => rfl)
        try simp only [Act.put, List.setIfInBounds_toArray, List.set_cons_zero, List.set_cons_succ]
        refine RelO.next (k' := 17) rfl (fun W gW hF => ?_) ?_
        focus
          obtain ⟨h14, h15, _⟩ := hF
          have e14 : val 14 = .bool true := h14 _ (Frm.refl _ W)
          have e15 : val 15 = rg (fC 8 0 0) vq := h15 _ (Frm.refl _ W)
          try simp only [e15]
          try simp only [e14]
          try simp only [tupAt]
          refine OpOK.call (by rfl) ?_ ((kc_full vq W (H29.out W (D.trans gW)).2).mono ?_)
          · first | (go_simp; done) | (go_simp; with_reducible rfl) | (go_simp; rfl)
          · rintro e W1 ⟨he, g1⟩
            subst he
            exact ⟨_, rfl, g1, fun W2 _ => rfl⟩
        try simp only [Act.put, List.setIfInBounds_toArray, List.set_cons_zero, List.set_cons_succ]
        refine RelO.next (k' := 18) rfl (fun W gW hF => ?_) ?_
        focus
          obtain ⟨h14, h16, _⟩ := hF
          have e14 : val 14 = .bool true := h14 _ (Frm.refl _ W)
          have e16 : val 16 = .int .i64 0 := h16 _ (Frm.refl _ W)
          try simp only [e16]
          try simp only [e14]
          try simp only [tupAt]
          refine OpOK.val (u := .bool true) (by rfl) ?_ (fun W' _ => rfl)
          try simp only [e16]
          try simp only [e14]
          try simp only [tupAt]
          first | (go_simp; done) | (go_simp; with_reducible rfl) | (go_simp; rfl)
        try simp only [Act.put, List.setIfInBounds_toArray, List.set_cons_zero, List.set_cons_succ]
        refine RelO.next (k' := 19) rfl (fun W gW hF => ?_) ?_
        focus
          obtain ⟨h14, h17, _⟩ := hF
          have e14 : val 14 = .bool true := h14 _ (Frm.refl _ W)
          have e17 : val 17 = .bool true := h17 _ (Frm.refl _ W)
          try simp only [e17]
          try simp only [e14]
          try simp only [tupAt]
          refine OpOK.val (u := .bool true) (by rfl) ?_ (fun W' _ => rfl)
          try simp only [e17]
          try simp only [e14]
          try simp only [tupAt]
          first | (go_simp; done) | (go_simp; with_reducible rfl) | (go_simp; rfl)
        try simp only [Act.put, List.setIfInBounds_toArray, List.set_cons_zero, List.set_cons_succ]
        refine RelO.next (k' := 20) rfl (fun W gW hF => ?_) ?_
        focus
          obtain ⟨h18, _⟩ := hF
          have e18 : val 18 = .bool true := h18 _ (Frm.refl _ W)
          try simp only [e18]
          try simp only [tupAt]
          refine OpOK.val (u := .bool true) (by rfl) ?_ (fun W' _ => rfl)
          try simp only [e18]
          try simp only [tupAt]
          first | (go_simp; done) | (go_simp; with_reducible rfl) | (go_simp; rfl)
        try simp only [Act.put, List.setIfInBounds_toArray, List.set_cons_zero, List.set_cons_succ]
        refine RelO.next (k' := 21) rfl (fun W gW hF => ?_) ?_
        focus
          obtain ⟨h19, _⟩ := hF
          have e19 : val 19 = .bool true := h19 _ (Frm.refl _ W)
          try simp only [e19]
          try simp only [tupAt]
          refine OpOK.val (u := .int .i64 7) (by rfl) ?_ (fun W' _ => rfl)
          try simp only [e19]
          try simp only [tupAt]
          first | (go_simp; done) | (go_simp; with_reducible rfl) | (go_simp; rfl)
        try simp only [Act.put, List.setIfInBounds_toArray, List.set_cons_zero, List.set_cons_succ]
        refine RelO.next (k' := 22) rfl (fun W gW hF => ?_) ?_
        focus
          obtain ⟨h19, h20, _⟩ := hF
          have e19 : val 19 = .bool true := h19 _ (Frm.refl _ W)
          have e20 : val 20 = .int .i64 7 := h20 _ (Frm.refl _ W)
          try simp only [e20]
          try simp only [e19]
          try simp only [tupAt]
          refine OpOK.val (u := .bool true) (by rfl) ?_ (fun W' _ => rfl)
          try simp only [e20]
          try simp only [e19]
          try simp only [tupAt]
          first | (go_simp; done) | (go_simp; with_reducible rfl) | (go_simp; rfl)
        try simp only [Act.put, List.setIfInBounds_toArray, List.set_cons_zero, List.set_cons_succ]
        refine RelO.next (k' := 23) rfl (fun W gW hF => ?_) ?_
        focus
          obtain ⟨h19, h21, _⟩ := hF
          have e19 : val 19 = .bool true := h19 _ (Frm.refl _ W)
          have e21 : val 21 = .bool true := h21 _ (Frm.refl _ W)
          try simp only [e21]
          try simp only [e19]
          try simp only [tupAt]
          refine OpOK.val (u := .bool true) (by rfl) ?_ (fun W' _ => rfl)
          try simp only [e21]
          try simp only [e19]
          try simp only [tupAt]
          first | (go_simp; done) | (go_simp; with_reducible rfl) | (go_simp; rfl)
        try simp only [Act.put, List.setIfInBounds_toArray, List.set_cons_zero, List.set_cons_succ]
        refine RelO.next (k' := 24) rfl (fun W gW hF => ?_) ?_
        focus
          obtain ⟨h22, _⟩ := hF
          have e22 : val 22 = .bool true := h22 _ (Frm.refl _ W)
          try simp only [e22]
          try simp only [tupAt]
          refine OpOK.val (u := .bool true) (by rfl) ?_ (fun W' _ => rfl)
          try simp only [e22]
          try simp only [tupAt]
          first | (go_simp; done) | (go_simp; with_reducible rfl) | (go_simp; rfl)
        try simp only [Act.put, List.setIfInBounds_toArray, List.set_cons_zero, List.set_cons_succ]
        refine RelO.next (k' := 25) rfl (fun W gW hF => ?_) ?_
        focus
          obtain ⟨h23, _⟩ := hF
          have e23 : val 23 = .bool true := h23 _ (Frm.refl _ W)
          try simp only [e23]
          try simp only [tupAt]
          refine OpOK.val (u := .int .i64 0) (by rfl) ?_ (fun W' _ => rfl)
          try simp only [e23]
          try simp only [tupAt]
          first | (go_simp; done) | (go_simp; with_reducible rfl) | (go_simp; rfl)
        try simp only [Act.put, List.setIfInBounds_toArray, List.set_cons_zero, List.set_cons_succ]
        refine RelO.next (k' := 26) rfl (fun W gW hF => ?_) ?_
        focus
          obtain ⟨h23, h24, _⟩ := hF
          have e23 : val 23 = .bool true := h23 _ (Frm.refl _ W)
          have e24 : val 24 = .int .i64 0 := h24 _ (Frm.refl _ W)
          try simp only [e24]
          try simp only [e23]
          try simp only [tupAt]
          refine OpOK.val (u := .bool true) (by rfl) ?_ (fun W' _ => rfl)
          try simp only [e24]
          try simp only [e23]
          try simp only [tupAt]
          first | (go_simp; done) | (go_simp; with_reducible rfl) | (go_simp; rfl)
        try simp only [Act.put, List.setIfInBounds_toArray, List.set_cons_zero, List.set_cons_succ]
        refine RelO.next (k' := 27) rfl (fun W gW hF => ?_) ?_
        focus
          obtain ⟨h23, h25, _⟩ := hF
          have e23 : val 23 = .bool true := h23 _ (Frm.refl _ W)
          have e25 : val 25 = .bool true := h25 _ (Frm.refl _ W)
          try simp only [e25]
          try simp only [e23]
          try simp only [tupAt]
          refine OpOK.val (u := .bool true) (by rfl) ?_ (fun W' _ => rfl)
          try simp only [e25]
          try simp only [e23]
          try simp only [tupAt]
          first | (go_simp; done) | (go_simp; with_reducible rfl) | (go_simp; rfl)
        try simp only [Act.put, List.setIfInBounds_toArray, List.set_cons_zero, List.set_cons_succ]
        refine RelO.next (k' := 28) rfl (fun W gW hF => ?_) ?_
        focus
          obtain ⟨h26, _⟩ := hF
          have e26 : val 26 = .bool true := h26 _ (Frm.refl _ W)
          try simp only [e26]
          try simp only [tupAt]
          refine OpOK.val (u := .bool true) (by rfl) ?_ (fun W' _ => rfl)
          try simp only [e26]
          try simp only [tupAt]
          first | (go_simp; done) | (go_simp; with_reducible rfl) | (go_simp; rfl)
        try simp only [Act.put, List.setIfInBounds_toArray, List.set_cons_zero, List.set_cons_succ]
        refine RelO.next (k' := 29) rfl (fun W gW hF => ?_) ?_
        focus
          obtain ⟨h27, _⟩ := hF
          have e27 : val 27 = .bool true := h27 _ (Frm.refl _ W)
          try simp only [e27]
          try simp only [tupAt]
          refine OpOK.val (u := .pointer (some ⟨B34, 8, none⟩)) (by rfl) ?_ (fun W' _ => rfl)
          try simp only [e27]
          try simp only [tupAt]
          first | (go_simp; done) | (go_simp; with_reducible rfl) | (go_simp; rfl)
        try simp only [Act.put, List.setIfInBounds_toArray, List.set_cons_zero, List.set_cons_succ]
        refine RelO.next (k' := 30) rfl (fun W gW hF => ?_) ?_
        focus
          obtain ⟨h27, h28, _⟩ := hF
          have e27 : val 27 = .bool true := h27 _ (Frm.refl _ W)
          have e28 : val 28 = .pointer (some ⟨B34, 8, none⟩) := h28 _ (Frm.refl _ W)
          try simp only [e28]
          try simp only [e27]
          try simp only [tupAt]
          have c8 := (H34.out W (D.trans gW)).1.cell 8 rfl
          have a3 := Try.isAgg37
          have z3 := Try.sizeOf37
          exact OpOK.val (u := .slice a34 8 c34) (by rfl) (by first | (go_simp; done) | (go_simp; with_reducible rfl) | (go_simp; rfl)) (fun W' _ => rfl)
        try simp only [Act.put, List.setIfInBounds_toArray, List.set_cons_zero, List.set_cons_succ]
        refine RelO.next (k' := 31) rfl (fun W gW hF => ?_) ?_
        focus
          obtain ⟨h27, h29, _⟩ := hF
          have e27 : val 27 = .bool true := h27 _ (Frm.refl _ W)
          have e29 : val 29 = .slice a34 8 c34 := h29 _ (Frm.refl _ W)
          try simp only [e29]
          try simp only [e27]
          try simp only [tupAt]
          refine OpOK.val (u := .int .i64 8) (by rfl) ?_ (fun W' _ => rfl)
          try simp only [e29]
          try simp only [e27]
          try simp only [tupAt]
          first | (go_simp; done) | (go_simp; with_reducible rfl) | (go_simp; rfl)
        try simp only [Act.put, List.setIfInBounds_toArray, List.set_cons_zero, List.set_cons_succ]
        refine RelO.next (k' := 32) rfl (fun W gW hF => ?_) ?_
        focus
          obtain ⟨h27, h30, _⟩ := hF
          have e27 : val 27 = .bool true := h27 _ (Frm.refl _ W)
          have e30 : val 30 = .int .i64 8 := h30 _ (Frm.refl _ W)
          try simp only [e30]
          try simp only [e27]
          try simp only [tupAt]
          refine OpOK.val (u := .bool true) (by rfl) ?_ (fun W' _ => rfl)
          try simp only [e30]
          try simp only [e27]
          try simp only [tupAt]
          first | (go_simp; done) | (go_simp; with_reducible rfl) | (go_simp; rfl)
        try simp only [Act.put, List.setIfInBounds_toArray, List.set_cons_zero, List.set_cons_succ]
        refine RelO.next (k' := 33) rfl (fun W gW hF => ?_) ?_
        focus
          obtain ⟨h27, h31, _⟩ := hF
          have e27 : val 27 = .bool true := h27 _ (Frm.refl _ W)
          have e31 : val 31 = .bool true := h31 _ (Frm.refl _ W)
          try simp only [e31]
          try simp only [e27]
          try simp only [tupAt]
          refine OpOK.val (u := .bool true) (by rfl) ?_ (fun W' _ => rfl)
          try simp only [e31]
          try simp only [e27]
          try simp only [tupAt]
          first | (go_simp; done) | (go_simp; with_reducible rfl) | (go_simp; rfl)
        try simp only [Act.put, List.setIfInBounds_toArray, List.set_cons_zero, List.set_cons_succ]
        refine RelO.next (k' := 34) rfl (fun W gW hF => ?_) ?_
        focus
          obtain ⟨h32, _⟩ := hF
          have e32 : val 32 = .bool true := h32 _ (Frm.refl _ W)
          try simp only [e32]
          try simp only [tupAt]
          refine OpOK.val (u := .bool true) (by rfl) ?_ (fun W' _ => rfl)
          try simp only [e32]
          try simp only [tupAt]
          first | (go_simp; done) | (go_simp; with_reducible rfl) | (go_simp; rfl)
        try simp only [Act.put, List.setIfInBounds_toArray, List.set_cons_zero, List.set_cons_succ]
        refine RelO.next (k' := 35) rfl (fun W gW hF => ?_) ?_
        focus
          obtain ⟨h33, _⟩ := hF
          have e33 : val 33 = .bool true := h33 _ (Frm.refl _ W)
          try simp only [e33]
          try simp only [tupAt]
          refine OpOK.val (u := .int .i64 7) (by rfl) ?_ (fun W' _ => rfl)
          try simp only [e33]
          try simp only [tupAt]
          first | (go_simp; done) | (go_simp; with_reducible rfl) | (go_simp; rfl)
        try simp only [Act.put, List.setIfInBounds_toArray, List.set_cons_zero, List.set_cons_succ]
        refine RelO.next (k' := 36) rfl (fun W gW hF => ?_) ?_
        focus
          obtain ⟨h33, h34, _⟩ := hF
          have e33 : val 33 = .bool true := h33 _ (Frm.refl _ W)
          have e34 : val 34 = .int .i64 7 := h34 _ (Frm.refl _ W)
          try simp only [e34]
          try simp only [e33]
          try simp only [tupAt]
          refine OpOK.val (u := .bool true) (by rfl) ?_ (fun W' _ => rfl)
          try simp only [e34]
          try simp only [e33]
          try simp only [tupAt]
          first | (go_simp; done) | (go_simp; with_reducible rfl) | (go_simp; rfl)
        try simp only [Act.put, List.setIfInBounds_toArray, List.set_cons_zero, List.set_cons_succ]
        refine RelO.next (k' := 37) rfl (fun W gW hF => ?_) ?_
        focus
          obtain ⟨h33, h35, _⟩ := hF
          have e33 : val 33 = .bool true := h33 _ (Frm.refl _ W)
          have e35 : val 35 = .bool true := h35 _ (Frm.refl _ W)
          try simp only [e35]
          try simp only [e33]
          try simp only [tupAt]
          refine OpOK.val (u := .bool true) (by rfl) ?_ (fun W' _ => rfl)
          try simp only [e35]
          try simp only [e33]
          try simp only [tupAt]
          first | (go_simp; done) | (go_simp; with_reducible rfl) | (go_simp; rfl)
        try simp only [Act.put, List.setIfInBounds_toArray, List.set_cons_zero, List.set_cons_succ]
        refine RelO.next (k' := 38) rfl (fun W gW hF => ?_) ?_
        focus
          obtain ⟨h36, _⟩ := hF
          have e36 : val 36 = .bool true := h36 _ (Frm.refl _ W)
          try simp only [e36]
          try simp only [tupAt]
          refine OpOK.val (u := .bool true) (by rfl) ?_ (fun W' _ => rfl)
          try simp only [e36]
          try simp only [tupAt]
          first | (go_simp; done) | (go_simp; with_reducible rfl) | (go_simp; rfl)
        try simp only [Act.put, List.setIfInBounds_toArray, List.set_cons_zero, List.set_cons_succ]
        refine RelO.next (k' := 39) rfl (fun W gW hF => ?_) ?_
        focus
          obtain ⟨h37, _⟩ := hF
          have e37 : val 37 = .bool true := h37 _ (Frm.refl _ W)
          try simp only [e37]
          try simp only [tupAt]
          refine OpOK.call (by rfl) ?_ ((sworks_any W).mono ?_)
          · first | (go_simp; done) | (go_simp; with_reducible rfl) | (go_simp; rfl)
          · rintro e W1 ⟨he, g1⟩
            subst he
            exact ⟨_, rfl, g1, fun W2 _ => rfl⟩
        try simp only [Act.put, List.setIfInBounds_toArray, List.set_cons_zero, List.set_cons_succ]
        refine RelO.next (k' := 40) rfl (fun W gW hF => ?_) ?_
        focus
          obtain ⟨h37, h38, _⟩ := hF
          have e37 : val 37 = .bool true := h37 _ (Frm.refl _ W)
          have e38 : val 38 = .bool true := h38 _ (Frm.refl _ W)
          try simp only [e38]
          try simp only [e37]
          try simp only [tupAt]
          refine OpOK.val (u := .bool true) (by rfl) ?_ (fun W' _ => rfl)
          try simp only [e38]
          try simp only [e37]
          try simp only [tupAt]
          first | (go_simp; done) | (go_simp; with_reducible rfl) | (go_simp; rfl)
        try simp only [Act.put, List.setIfInBounds_toArray, List.set_cons_zero, List.set_cons_succ]
        refine RelO.next (k' := 41) rfl (fun W gW hF => ?_) ?_
        focus
          obtain ⟨h39, _⟩ := hF
          have e39 : val 39 = .bool true := h39 _ (Frm.refl _ W)
          try simp only [e39]
          try simp only [tupAt]
          refine OpOK.val (u := .bool true) (by rfl) ?_ (fun W' _ => rfl)
          try simp only [e39]
          try simp only [tupAt]
          first | (go_simp; done) | (go_simp; with_reducible rfl) | (go_simp; rfl)
        try simp only [Act.put, List.setIfInBounds_toArray, List.set_cons_zero]
        exact RelO.nil
      intro val w19 gW hF
      obtain ⟨h0, h1, h2, h3, h4, h5, h6, h7, h8, h9, h10, h11, h12, h13, h14, h15, h16, h17, h18, h19, h20, h21, h22, h23, h24, h25, h26, h27, h28, h29, h30, h31, h32, h33, h34, h35, h36, h37, h38, h39, h40, _⟩ := hF
      have e0 : val 0 = .int .i64 2 := h0 _ (Frm.refl _ w19)
      have e1 : val 1 = .bool true := h1 _ (Frm.refl _ w19)
      have e2 : val 2 = .bool true := h2 _ (Frm.refl _ w19)
      have e3 : val 3 = .int .i64 12 := h3 _ (Frm.refl _ w19)
      have e4 : val 4 = .bool true := h4 _ (Frm.refl _ w19)
      have e5 : val 5 = .bool true := h5 _ (Frm.refl _ w19)
      have e6 : val 6 = .bool true := h6 _ (Frm.refl _ w19)
      have e7 : val 7 = .int .i64 4 := h7 _ (Frm.refl _ w19)
      have e8 : val 8 = .bool true := h8 _ (Frm.refl _ w19)
      have e9 : val 9 = .bool true := h9 _ (Frm.refl _ w19)
      have e10 : val 10 = .bool true := h10 _ (Frm.refl _ w19)
      have e11 : val 11 = .int .i64 4 := h11 _ (Frm.refl _ w19)
      have e12 : val 12 = .bool true := h12 _ (Frm.refl _ w19)
      have e13 : val 13 = .bool true := h13 _ (Frm.refl _ w19)
      have e14 : val 14 = .bool true := h14 _ (Frm.refl _ w19)
      have e15 : val 15 = rg (fC 8 0 0) vq := h15 _ (Frm.refl _ w19)
      have e16 : val 16 = .int .i64 0 := h16 _ (Frm.refl _ w19)
      have e17 : val 17 = .bool true := h17 _ (Frm.refl _ w19)
      have e18 : val 18 = .bool true := h18 _ (Frm.refl _ w19)
      have e19 : val 19 = .bool true := h19 _ (Frm.refl _ w19)
      have e20 : val 20 = .int .i64 7 := h20 _ (Frm.refl _ w19)
      have e21 : val 21 = .bool true := h21 _ (Frm.refl _ w19)
      have e22 : val 22 = .bool true := h22 _ (Frm.refl _ w19)
      have e23 : val 23 = .bool true := h23 _ (Frm.refl _ w19)
      have e24 : val 24 = .int .i64 0 := h24 _ (Frm.refl _ w19)
      have e25 : val 25 = .bool true := h25 _ (Frm.refl _ w19)
      have e26 : val 26 = .bool true := h26 _ (Frm.refl _ w19)
      have e27 : val 27 = .bool true := h27 _ (Frm.refl _ w19)
      have e28 : val 28 = .pointer (some ⟨B34, 8, none⟩) := h28 _ (Frm.refl _ w19)
      have e29 : val 29 = .slice a34 8 c34 := h29 _ (Frm.refl _ w19)
      have e30 : val 30 = .int .i64 8 := h30 _ (Frm.refl _ w19)
      have e31 : val 31 = .bool true := h31 _ (Frm.refl _ w19)
      have e32 : val 32 = .bool true := h32 _ (Frm.refl _ w19)
      have e33 : val 33 = .bool true := h33 _ (Frm.refl _ w19)
      have e34 : val 34 = .int .i64 7 := h34 _ (Frm.refl _ w19)
      have e35 : val 35 = .bool true := h35 _ (Frm.refl _ w19)
      have e36 : val 36 = .bool true := h36 _ (Frm.refl _ w19)
      have e37 : val 37 = .bool true := h37 _ (Frm.refl _ w19)
      have e38 : val 38 = .bool true := h38 _ (Frm.refl _ w19)
      have e39 : val 39 = .bool true := h39 _ (Frm.refl _ w19)
      have e40 : val 40 = .bool true := h40 _ (Frm.refl _ w19)
      clear h0 h1 h2 h3 h4 h5 h6 h7 h8 h9 h10 h11 h12 h13 h14 h15 h16 h17 h18 h19 h20 h21 h22 h23 h24 h25 h26 h27 h28 h29 h30 h31 h32 h33 h34 h35 h36 h37 h38 h39 h40
      simp only [aO, Act.put, List.setIfInBounds_toArray, List.set_cons_zero, List.set_cons_succ, Nat.reduceAdd]
      try simp only [e40]
      try simp only [e39]
      try simp only [e38]
      try simp only [e37]
      try simp only [e36]
      try simp only [e35]
      try simp only [e34]
      try simp only [e33]
      try simp only [e32]
      try simp only [e31]
      try simp only [e30]
      try simp only [e29]
      try simp only [e28]
      try simp only [e27]
      try simp only [e26]
      try simp only [e25]
      try simp only [e24]
      try simp only [e23]
      try simp only [e22]
      try simp only [e21]
      try simp only [e20]
      try simp only [e19]
      try simp only [e18]
      try simp only [e17]
      try simp only [e16]
      try simp only [e15]
      try simp only [e14]
      try simp only [e13]
      try simp only [e12]
      try simp only [e11]
      try simp only [e10]
      try simp only [e9]
      try simp only [e8]
      try simp only [e7]
      try simp only [e6]
      try simp only [e5]
      try simp only [e4]
      try simp only [e3]
      try simp only [e2]
      try simp only [e1]
      try simp only [e0]
      try simp only [tupAt]
      refine wpTail.done ?_
      refine hK _ _ ?_
      have g19 := D.trans gW
      replace H29 := Hid.grow H29 g19
      replace H31 := Hid.grow H31 g19
      replace H32 := Hid.grow H32 g19
      replace H34 := Hid.grow H34 g19
      replace H35 := Hid.grow H35 g19
      replace H37 := Hid.grow H37 g19
      replace GG := GG.trans g19
      clear gW D HN HE hK e0 e1 e2 e3 e4 e5 e6 e7 e8 e9 e10 e11 e12 e13 e14 e15 e16 e17 e18 e19 e20 e21 e22 e23 e24 e25 e26 e27 e28 e29 e30 e31 e32 e33 e34 e35 e36 e37 e38 e39 e40
      go_wp2_with fail
      refine bodyPost_ret (v := .bool true) (by simp [results, Try.results9, go_sem]) rfl ?_
      exact ⟨rfl, GG⟩

end Go.Proofs.Ytehakbijhkpbbaa
