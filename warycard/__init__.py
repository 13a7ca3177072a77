"""Warycard: a card for programs that do not trust one another."""
